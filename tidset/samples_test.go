package tidset_test

import (
	"maps"
	"math"
	"slices"
	"testing"

	"vestibule/api"
	"vestibule/tidset"
)

// noAddresses are numbers that are no addresses.
var noAddresses = []int{-1, -63, -64, -65, 1 << 24, 1<<24 + 1, 1<<24 + 64, 1 << 25, 1 << 32, math.MinInt, math.MaxInt}

// chance is numbers of all sorts, the same ones in each run.
type chance uint32

func (c *chance) below(n int) int {
	*c = *c*1664525 + 1013904223
	return int(*c>>8) % n
}

func fresh(t *testing.T, most int) *tidset.Set {
	t.Helper()
	s, e := tidset.New(most)
	if e != api.OK || s == nil {
		t.Fatalf("New(%d): %v %d", most, s, e)
	}
	return s
}

// with is a set of these addresses, added one behind the other.
func with(t *testing.T, most int, tids ...int) *tidset.Set {
	t.Helper()
	s := fresh(t, most)
	add(t, s, tids...)
	return s
}

func add(t *testing.T, s *tidset.Set, tids ...int) {
	t.Helper()
	for _, tid := range tids {
		if e := s.Add(tid); e != api.OK {
			t.Fatalf("Add(%d): %d", tid, e)
		}
	}
}

func and(t *testing.T, a, b *tidset.Set) *tidset.Set {
	t.Helper()
	s, e := tidset.And(a, b)
	if e != api.OK || s == nil {
		t.Fatalf("And: %v %d", s, e)
	}
	return s
}

func or(t *testing.T, a, b *tidset.Set) *tidset.Set {
	t.Helper()
	s, e := tidset.Or(a, b)
	if e != api.OK || s == nil {
		t.Fatalf("Or: %v %d", s, e)
	}
	return s
}

// is tells where a set does not tell just these addresses exactly and just these pages whole.
func is(t *testing.T, what string, s *tidset.Set, tids, pages []int) {
	t.Helper()
	if l := s.Tids(); !slices.Equal(l, tids) {
		t.Errorf("%s: Tids %v, not %v", what, l, tids)
	}
	if l := s.Pages(); !slices.Equal(l, pages) {
		t.Errorf("%s: Pages %v, not %v", what, l, pages)
	}
}

// has tells where a set does not have each of these, or has one of what is no address.
func has(t *testing.T, what string, s *tidset.Set, tids ...int) {
	t.Helper()
	for _, tid := range tids {
		if !s.Has(tid) {
			t.Errorf("%s: has not %d", what, tid)
		}
	}
	for _, tid := range noAddresses {
		if s.Has(tid) {
			t.Errorf("%s: has %d, which is no address", what, tid)
		}
	}
}

func lacks(t *testing.T, what string, s *tidset.Set, tids ...int) {
	t.Helper()
	for _, tid := range tids {
		if s.Has(tid) {
			t.Errorf("%s: has %d", what, tid)
		}
	}
}

// run is so many addresses, rising from one.
func run(from, n int) []int {
	var l []int
	for i := range n {
		l = append(l, from+i)
	}
	return l
}

// hand is a set in lists, in no order: what a set is held against. It does word for word what the document says.
type hand struct {
	most         int
	exact, whole []int
}

func newHand(most int) *hand { return &hand{most: most} }

func (h *hand) has(tid int) bool {
	return slices.Contains(h.exact, tid) || slices.Contains(h.whole, tid/64)
}

func (h *hand) put(tid int) {
	if !h.has(tid) {
		h.exact = append(h.exact, tid)
	}
}

func (h *hand) add(tid int) {
	h.put(tid)
	h.degrade()
}

func (h *hand) degrade() {
	for len(h.exact) > h.most {
		numbers := map[int]int{}
		for _, tid := range h.exact {
			numbers[tid/64]++
		}
		page, most := 0, 0
		for _, p := range slices.Sorted(maps.Keys(numbers)) {
			if numbers[p] > most {
				page, most = p, numbers[p]
			}
		}
		h.whole = append(h.whole, page)
		h.exact = slices.DeleteFunc(h.exact, func(tid int) bool { return tid/64 == page })
	}
}

func handAnd(a, b *hand) *hand {
	h := newHand(min(a.most, b.most))
	for _, page := range a.whole {
		if slices.Contains(b.whole, page) {
			h.whole = append(h.whole, page)
		}
	}
	for _, tid := range a.exact {
		if b.has(tid) {
			h.put(tid)
		}
	}
	for _, tid := range b.exact {
		if a.has(tid) {
			h.put(tid)
		}
	}
	h.degrade()
	return h
}

func handOr(a, b *hand) *hand {
	h := newHand(min(a.most, b.most))
	for _, page := range slices.Concat(a.whole, b.whole) {
		if !slices.Contains(h.whole, page) {
			h.whole = append(h.whole, page)
		}
	}
	for _, tid := range slices.Concat(a.exact, b.exact) {
		h.put(tid)
	}
	h.degrade()
	return h
}

// same tells where a set is not what is in hand.
func (h *hand) same(t *testing.T, what string, s *tidset.Set) {
	t.Helper()
	is(t, what, s, slices.Sorted(slices.Values(h.exact)), slices.Sorted(slices.Values(h.whole)))
}
