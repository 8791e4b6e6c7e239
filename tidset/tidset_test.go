package tidset_test

import (
	"math"
	"slices"
	"testing"
	"unsafe"

	"vestibule/api"
	"vestibule/tidset"
)

// Ti1: how many may be exact, and that a new set is empty.
func TestNew(t *testing.T) {
	for most := range 65 {
		s := fresh(t, most)
		is(t, "new", s, nil, nil)
		lacks(t, "new", s, 0, 1, 63, 64, 1<<24-1)
		l := run(1000, most)
		add(t, s, l...)
		is(t, "as many as may be", s, l, nil)
		add(t, s, 1<<24-1)
		if len(s.Pages()) == 0 {
			t.Errorf("most %d: %d are exact", most, len(s.Tids()))
		}
	}
}

// Ti1: what New refuses.
func TestNewRefused(t *testing.T) {
	for _, most := range []int{-1, 65, 66, 128, math.MinInt, math.MaxInt, 1 << 32, 1<<32 + 1, -1 << 32} {
		if s, e := tidset.New(most); s != nil || e != api.ErrArg {
			t.Errorf("New(%d): %v %d", most, s, e)
		}
	}
}

// Ti1: an address is in it exactly, once, how often soever it is added.
func TestAdd(t *testing.T) {
	s := with(t, 8, 1<<24-1, 64, 63, 0, 64, 0, 1<<24-64)
	is(t, "added", s, []int{0, 63, 64, 1<<24 - 64, 1<<24 - 1}, nil)
	has(t, "added", s, 0, 63, 64, 1<<24-64, 1<<24-1)
	lacks(t, "added", s, 1, 62, 65, 127, 128, 1<<24-65, 1<<24-63, 1<<24-2)
}

// Ti1: what is no address is refused, and changes nothing.
func TestAddRefused(t *testing.T) {
	exact, whole := with(t, 2, 0, 64), with(t, 0, 0, 1<<24-1)
	for _, tid := range noAddresses {
		for _, s := range []*tidset.Set{exact, whole} {
			if e := s.Add(tid); e != api.ErrArg {
				t.Errorf("Add(%d): %d", tid, e)
			}
		}
	}
	is(t, "refused", exact, []int{0, 64}, nil)
	is(t, "refused", whole, nil, []int{0, 1<<18 - 1})
	has(t, "refused", exact, 0, 64)
	has(t, "refused", whole, run(0, 64)...)
}

// Ti1: the example of the document.
func TestExample(t *testing.T) {
	s := with(t, 2, 64, 65, 130)
	is(t, "example", s, []int{130}, []int{1})
	has(t, "example", s, 64, 65, 70, 127, 130)
	lacks(t, "example", s, 0, 63, 128, 129, 131)
}

// Ti1: the page that has most goes, of several the lowest one, in whatever order they came.
func TestDegrades(t *testing.T) {
	type test struct {
		most        int
		add         []int
		tids, pages []int
	}
	for _, x := range []test{
		{0, []int{70}, nil, []int{1}},
		{0, []int{1<<24 - 1, 0}, nil, []int{0, 1<<18 - 1}},
		{1, []int{64, 0}, []int{64}, []int{0}},
		{1, []int{0, 64}, []int{64}, []int{0}},
		{1, []int{640, 128, 64, 0}, []int{640}, []int{0, 1, 2}},
		{2, []int{64, 128, 0}, []int{64, 128}, []int{0}},
		{2, []int{128, 129, 0}, []int{0}, []int{2}},
		{2, []int{0, 128, 129}, []int{0}, []int{2}},
		{3, []int{200, 201, 70, 71}, []int{200, 201}, []int{1}},
		{3, []int{70, 71, 200, 201}, []int{200, 201}, []int{1}},
		{4, []int{5, 200, 201, 202, 300}, []int{5, 300}, []int{3}},
		{4, []int{5, 200, 201, 202, 300, 203, 204}, []int{5, 300}, []int{3}},
		{4, []int{5, 200, 201, 202, 300, 301, 302, 303}, []int{5}, []int{3, 4}},
		{2, []int{0, 64, 65, 66}, []int{0}, []int{1}},
	} {
		s := with(t, x.most, x.add...)
		is(t, "degrades", s, x.tids, x.pages)
		has(t, "degrades", s, x.add...)
	}
}

// Ti1: nothing is done for an address of a page that stands whole: it is not exact again.
func TestWholePage(t *testing.T) {
	s := with(t, 2, 64, 65, 66, 0, 1)
	is(t, "ahead", s, []int{0, 1}, []int{1})
	add(t, s, run(64, 64)...)
	is(t, "behind", s, []int{0, 1}, []int{1})
	has(t, "behind", s, run(64, 64)...)
}

// Ti1: all places of a page may be exact; and it is another thing that it stands whole.
func TestAllPlaces(t *testing.T) {
	s := with(t, 64, run(128, 64)...)
	is(t, "all of a page", s, run(128, 64), nil)
	add(t, s, run(128, 64)...)
	is(t, "all of a page again", s, run(128, 64), nil)
	add(t, s, 0)
	is(t, "one more", s, []int{0}, []int{2})
	each := fresh(t, 64)
	for page := range 64 {
		add(t, each, page*64+page)
	}
	if n := len(each.Tids()); n != 64 || each.Pages() != nil {
		t.Errorf("one of each page: %d and %v", n, each.Pages())
	}
	add(t, each, 1<<24-1)
	if n := len(each.Tids()); n != 64 || !slices.Equal(each.Pages(), []int{0}) {
		t.Errorf("one more: %d and %v", n, each.Pages())
	}
}

// Ti1: each page there is may stand whole.
func TestAllPages(t *testing.T) {
	s := fresh(t, 0)
	for page := 1<<18 - 1; page >= 0; page-- {
		add(t, s, page*64+page%64)
	}
	is(t, "all pages", s, nil, run(0, 1<<18))
	is(t, "all of both", and(t, s, s), nil, run(0, 1<<18))
	is(t, "all of either", or(t, s, s), nil, run(0, 1<<18))
}

// Ti1: a set is, behind each Add, as the one that does what the document says; in each run the same.
func TestAddsAgree(t *testing.T) {
	c := chance(1)
	for _, most := range []int{0, 1, 2, 3, 5, 8, 63, 64} {
		for _, pages := range []int{1, 3, 40, 1 << 18} {
			s, again, h := fresh(t, most), fresh(t, most), newHand(most)
			for range 120 {
				tid := c.below(pages)*64 + c.below(64)
				add(t, s, tid)
				add(t, again, tid)
				h.add(tid)
				has(t, "agrees", s, tid)
				if near := tid ^ 1; s.Has(near) != h.has(near) {
					t.Errorf("most %d of %d pages: Has(%d) is %t", most, pages, near, s.Has(near))
				}
			}
			h.same(t, "agrees", s)
			h.same(t, "again", again)
		}
	}
}

// R1: nil and sets that were not given answer zero values, and a given set beside them does not help.
func TestNotGiven(t *testing.T) {
	good := with(t, 2, 64, 65, 66, 1)
	copied := *good
	for _, s := range []*tidset.Set{nil, {}, new(tidset.Set), &copied} {
		for _, tid := range append([]int{0, 1, 64}, noAddresses...) {
			if e := s.Add(tid); e != api.ErrArg || s.Has(tid) {
				t.Errorf("Add(%d): %d, Has: %t", tid, e, s.Has(tid))
			}
		}
		if s.Tids() != nil || s.Pages() != nil {
			t.Errorf("Tids %v, Pages %v", s.Tids(), s.Pages())
		}
		for _, pair := range [][2]*tidset.Set{{s, good}, {good, s}, {s, s}, {nil, s}} {
			if x, e := tidset.And(pair[0], pair[1]); x != nil || e != api.ErrArg {
				t.Errorf("And: %v %d", x, e)
			}
			if x, e := tidset.Or(pair[0], pair[1]); x != nil || e != api.ErrArg {
				t.Errorf("Or: %v %d", x, e)
			}
		}
	}
	is(t, "the given one", good, []int{1}, []int{1})
}

// R3: what is answered is new memory, its spare room too.
func TestAnswersAreNew(t *testing.T) {
	s := with(t, 9, append(run(0, 9), 700, 800, 900)...)
	for _, ask := range []func() []int{s.Tids, s.Pages} {
		l, again := ask(), ask()
		if len(l) == 0 || unsafe.SliceData(l) == unsafe.SliceData(again) {
			t.Fatalf("one memory twice: %v", l)
		}
		for i := range l[:cap(l)] {
			l[:cap(l)][i] = -5
		}
		if !slices.Equal(ask(), again) {
			t.Errorf("%v, not %v", ask(), again)
		}
	}
	is(t, "changed from without", s, []int{700, 800, 900}, []int{0})
}
