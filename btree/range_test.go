package btree_test

import (
	"slices"
	"testing"

	"vestibule/api"
	"vestibule/method"
)

// plainWith is a method that holds entries in hand.
func plainWith(t *testing.T, l ...api.Entry) *method.Plain {
	t.Helper()
	p := method.NewPlain()
	for _, e := range l {
		answers(t, p.Insert(e), api.OK)
	}
	return p
}

// Bt2: an end stands within the range, whether or not there is an entry of it.
func TestRange(t *testing.T) {
	keys := rising()
	for first := range 2 {
		var all []api.Entry
		for i := first; i < len(keys); i += 2 {
			all = append(all, entry(keys[i], 0), entry(keys[i], 77), entry(keys[i], api.MaxTid-1))
		}
		c := chance(2)
		x, p := with(t, mixed(&c, all)...), plainWith(t, all...)
		ends := []*api.Datum{nil}
		for i := range keys {
			ends = append(ends, &keys[i])
		}
		for _, from := range ends {
			for _, to := range ends {
				want, e := p.Range(from, to, false)
				answers(t, e, api.OK)
				ranges(t, x, from, to, want...)
			}
		}
		agrees(t, x, p)
	}
}

// Bt2: the same, with what it is written out.
func TestRangeByHand(t *testing.T) {
	l := []api.Entry{
		entry(integer(-1), 9), entry(integer(3), 0), entry(integer(3), 8), entry(integer(4), 1), entry(text(""), 2), entry(text("b"), 3),
	}
	x := with(t, l...)
	three, four, five, none, b, low := integer(3), integer(4), integer(5), text(""), text("b"), integer(-2)
	ranges(t, x, nil, nil, l...)
	ranges(t, x, &three, nil, l[1:]...)
	ranges(t, x, nil, &three, l[:3]...)
	ranges(t, x, &three, &three, l[1:3]...)
	ranges(t, x, &three, &four, l[1:4]...)
	ranges(t, x, &four, &three)
	ranges(t, x, &five, nil, l[4:]...)
	ranges(t, x, &five, &five)
	ranges(t, x, &five, &none, l[4:5]...)
	ranges(t, x, &low, &low)
	ranges(t, x, nil, &low)
	ranges(t, x, &low, &b, l...)
	ranges(t, x, &b, nil, l[5])
	ranges(t, x, &b, &none)
}

// Bt3: a range over many pages, and back is forward turned.
func TestRangeOverPages(t *testing.T) {
	keys := longest(600)
	var all []api.Entry
	for _, key := range keys {
		all = append(all, entry(key, 3), entry(key, 1<<20))
	}
	c := chance(9)
	x := with(t, mixed(&c, all)...)
	for range 60 {
		i, j := c.below(len(keys)), c.below(len(keys))
		ranges(t, x, &keys[i], &keys[j], all[2*i:max(2*i, 2*j+2)]...)
		ranges(t, x, &keys[i], nil, all[2*i:]...)
		ranges(t, x, nil, &keys[j], all[:2*j+2]...)
	}
	if l := x.Entries(); !slices.EqualFunc(l, all, sameEntry) {
		t.Error(len(l))
	}
}

// Bt2, R2: an end that is no datum is told ahead of one that is a list, whichever of both it is.
func TestRangeRefuses(t *testing.T) {
	l := []api.Entry{entry(integer(1), 1), entry(text("a"), 2)}
	x := with(t, l...)
	for _, d := range lists() {
		for _, other := range []*api.Datum{nil, &l[0].Key, &l[1].Key, &d} {
			refusesRange(t, x, &d, other, api.ErrKind)
			refusesRange(t, x, other, &d, api.ErrKind)
		}
	}
	deep := list()
	for _, d := range bad() {
		for _, other := range []*api.Datum{nil, &l[0].Key, &deep, &d} {
			refusesRange(t, x, &d, other, api.ErrArg)
			refusesRange(t, x, other, &d, api.ErrArg)
		}
	}
	holds(t, x, l...)
}
