package tidset_test

import (
	"slices"
	"testing"

	"vestibule/tidset"
)

// of is a set in which these pages stand whole, and these addresses are exact: fewer than 64 may be, and pages come to
// stand whole by one more than may.
func of(t *testing.T, most int, pages, tids []int) *tidset.Set {
	t.Helper()
	s := fresh(t, most)
	for _, page := range pages {
		add(t, s, run(page*64, most+1)...)
	}
	add(t, s, tids...)
	is(t, "made", s, tids, pages)
	return s
}

// Ti2: what is in both: pages of both, exact ones of both, exact ones of which the other has the page.
func TestAnd(t *testing.T) {
	a := of(t, 8, []int{1, 2}, []int{5, 6, 200, 640})
	b := of(t, 8, []int{2, 3}, []int{6, 7, 64, 127, 641})
	for _, s := range []*tidset.Set{and(t, a, b), and(t, b, a)} {
		is(t, "both", s, []int{6, 64, 127, 200}, []int{2})
	}
	is(t, "a", a, []int{5, 6, 200, 640}, []int{1, 2})
	is(t, "b", b, []int{6, 7, 64, 127, 641}, []int{2, 3})
	for _, x := range []*tidset.Set{a, b} {
		is(t, "with none", and(t, x, fresh(t, 64)), nil, nil)
		is(t, "none with it", and(t, fresh(t, 0), x), nil, nil)
		is(t, "with itself", and(t, x, x), x.Tids(), x.Pages())
	}
}

// Ti2: what is in either: pages of one, exact ones of both that are of no such page.
func TestOr(t *testing.T) {
	a := of(t, 8, []int{1, 2}, []int{5, 6, 200, 640})
	b := of(t, 8, []int{2, 3}, []int{6, 7, 64, 127, 641})
	for _, s := range []*tidset.Set{or(t, a, b), or(t, b, a)} {
		is(t, "either", s, []int{5, 6, 7, 640, 641}, []int{1, 2, 3})
	}
	is(t, "a", a, []int{5, 6, 200, 640}, []int{1, 2})
	is(t, "b", b, []int{6, 7, 64, 127, 641}, []int{2, 3})
	for _, x := range []*tidset.Set{a, b} {
		is(t, "with none", or(t, x, fresh(t, 64)), x.Tids(), x.Pages())
		is(t, "none with it", or(t, fresh(t, 8), x), x.Tids(), x.Pages())
		is(t, "with itself", or(t, x, x), x.Tids(), x.Pages())
	}
}

// Ti2: as many may be exact as in the lesser of both; what is given may be added to.
func TestLesserOfBoth(t *testing.T) {
	small, large := with(t, 2, 0, 64), with(t, 64, 0, 64, 128)
	for _, s := range []*tidset.Set{and(t, small, large), and(t, large, small)} {
		is(t, "both", s, []int{0, 64}, nil)
		add(t, s, 192)
		is(t, "both and one", s, []int{64, 192}, []int{0})
	}
	for _, s := range []*tidset.Set{or(t, small, large), or(t, large, small)} {
		is(t, "either", s, []int{64, 128}, []int{0})
		add(t, s, 1, 192)
		is(t, "either and one", s, []int{128, 192}, []int{0, 1})
	}
	is(t, "the small one", small, []int{0, 64}, nil)
	is(t, "the large one", large, []int{0, 64, 128}, nil)
	add(t, small, 1)
	is(t, "the small one and one", small, []int{64}, []int{0})
}

// Ti2: And degrades too, as long as more are exact than may be, and pages that are whole stay so.
func TestAndDegrades(t *testing.T) {
	// Of each one 4 are exact, of which the other one has the whole pages: 8 of both.
	a := of(t, 4, []int{0, 1}, []int{200, 201, 300, 400})
	b := of(t, 4, []int{3, 4, 6}, []int{1, 2, 3, 70})
	for _, s := range []*tidset.Set{and(t, a, b), and(t, b, a)} {
		is(t, "both", s, []int{70, 300, 400}, []int{0, 3})
	}
	none := of(t, 0, []int{3, 4, 6}, nil)
	for _, s := range []*tidset.Set{and(t, a, none), and(t, none, a)} {
		is(t, "with one that holds none", s, nil, []int{3, 4, 6})
	}
	all := with(t, 64, run(192, 64)...)
	for _, s := range []*tidset.Set{and(t, all, or(t, fresh(t, 64), none)), and(t, none, all)} {
		is(t, "a page of which all are exact", s, nil, []int{3})
	}
	whole := of(t, 60, []int{3}, nil)
	add(t, whole, 0)
	is(t, "all are exact, but 60 may be", and(t, whole, all), nil, []int{3})
	whole = with(t, 64, 5)
	is(t, "nothing in common", and(t, whole, all), nil, nil)
}

// Ti2: Or degrades: exact ones of both together are more than may be.
func TestOrDegrades(t *testing.T) {
	a := of(t, 3, []int{1}, []int{0, 128, 129})
	b := of(t, 3, []int{4}, []int{2, 3, 192})
	for _, s := range []*tidset.Set{or(t, a, b), or(t, b, a)} {
		is(t, "either", s, []int{128, 129, 192}, []int{0, 1, 4})
	}
	// What goes with a page that stands whole in the other one is not counted.
	a, b = of(t, 2, nil, []int{64, 65}), of(t, 2, []int{1}, []int{0, 500})
	for _, s := range []*tidset.Set{or(t, a, b), or(t, b, a)} {
		is(t, "of a whole page", s, []int{0, 500}, []int{1})
	}
	// An address of both counts once.
	a, b = of(t, 2, nil, []int{0, 64}), of(t, 2, nil, []int{0, 64})
	is(t, "the same ones", or(t, a, b), []int{0, 64}, nil)
	// Twice 64, of 128 pages: 64 stay.
	a, b = fresh(t, 64), fresh(t, 64)
	for page := range 64 {
		add(t, a, page*128)
		add(t, b, page*128+64+page)
	}
	s := or(t, a, b)
	if !slices.Equal(s.Pages(), run(0, 64)) || len(s.Tids()) != 64 {
		t.Errorf("of 128 pages: %v and %v", s.Tids(), s.Pages())
	}
}

// R3, R4: a set that And or Or gave shares nothing with those it was made of, nor with another one.
func TestBothAreNew(t *testing.T) {
	for _, both := range []func(t *testing.T, a, b *tidset.Set) *tidset.Set{and, or} {
		a := of(t, 4, []int{1}, []int{5, 200})
		one, other := both(t, a, a), both(t, a, a)
		add(t, one, 6, 7, 8)
		is(t, "one", one, []int{200}, []int{0, 1})
		is(t, "other", other, []int{5, 200}, []int{1})
		is(t, "what it was made of", a, []int{5, 200}, []int{1})
		add(t, a, 201, 202, 203)
		is(t, "other behind", other, []int{5, 200}, []int{1})
		if a == one || one == other {
			t.Error("one set twice")
		}
	}
}

// made is a set and what it is in hand.
func made(t *testing.T, c *chance, pages int) (*tidset.Set, *hand) {
	t.Helper()
	most := []int{0, 1, 2, 4, 9, 33, 64}[c.below(7)]
	s, h := fresh(t, most), newHand(most)
	for range c.below(100) {
		tid := c.below(pages)*64 + c.below(8)
		add(t, s, tid)
		h.add(tid)
	}
	return s, h
}

// Ti2, Ti3: sets of all sorts, and those made of them, are as those that do what the document says; nothing is missing.
func TestBothAgree(t *testing.T) {
	c := chance(7)
	for range 300 {
		pages := 1 + c.below(12)
		a, x := made(t, &c, pages)
		b, y := made(t, &c, pages)
		both, either := and(t, a, b), or(t, a, b)
		handAnd(x, y).same(t, "and", both)
		handOr(x, y).same(t, "or", either)
		handAnd(y, x).same(t, "and, the other way", and(t, b, a))
		handOr(y, x).same(t, "or, the other way", or(t, b, a))
		handOr(handAnd(x, y), y).same(t, "or of and", or(t, both, b))
		handAnd(handOr(x, y), x).same(t, "and of or", and(t, either, a))
		x.same(t, "a", a)
		y.same(t, "b", b)
		for tid := range pages * 64 {
			inA, inB := a.Has(tid), b.Has(tid)
			if inA && inB && !both.Has(tid) || (inA || inB) && !either.Has(tid) {
				t.Fatalf("%d is missing", tid)
			}
		}
	}
}

// Ti3: sets that are few enough are as sets of numbers are.
func TestExactSets(t *testing.T) {
	c := chance(3)
	for range 100 {
		numbers := [2]map[int]int{{}, {}}
		sets := [2]*tidset.Set{fresh(t, 64), fresh(t, 64)}
		for i := range 64 {
			tid := c.below(50) * 1000
			numbers[i%2][tid]++
			add(t, sets[i%2], tid)
		}
		var both, either []int
		for tid := range 50 * 1000 {
			a, b := numbers[0][tid] > 0, numbers[1][tid] > 0
			if a && b {
				both = append(both, tid)
			}
			if a || b {
				either = append(either, tid)
			}
			if sets[0].Has(tid) != a || sets[1].Has(tid) != b {
				t.Fatalf("%d: %t %t", tid, a, b)
			}
		}
		is(t, "and", and(t, sets[0], sets[1]), both, nil)
		is(t, "or", or(t, sets[0], sets[1]), either, nil)
	}
}
