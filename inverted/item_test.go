package inverted_test

import (
	"slices"
	"testing"

	"vestibule/api"
)

// In2, In3: an address is found by each item of its list, at whatever place, and by no other.
func TestItems(t *testing.T) {
	var in []api.Entry
	all := items()
	for i, d := range all {
		key := list(d)
		for n := range i % api.MaxItems {
			key.L = append(key.L, all[(i+5*n)%len(all)])
		}
		for n := range i%3 + 1 {
			in = append(in, entry(key, 300*n+i))
		}
	}
	c := chance(5)
	x := with(t, mixed(&c, in)...)
	itemsAgree(t, x, in)
	itemIs(t, x, integer(77))
	itemIs(t, x, text("ab"))
	for i, e := range in {
		answers(t, x.Delete(e), api.OK)
		itemsAgree(t, x, in[i+1:])
	}
}

// In2: what may not be is refused, ahead of what is a list.
func TestItemRefuses(t *testing.T) {
	in := []api.Entry{entry(list(), 1), entry(list(integer(1)), 2)}
	x := with(t, in...)
	for _, d := range bad() {
		if l, e := x.Item(d); e != api.ErrArg || len(l) != 0 {
			t.Errorf("Item(%s): %v %d", short(d), l, e)
		}
	}
	for _, d := range lists() {
		if l, e := x.Item(d); e != api.ErrKind || len(l) != 0 {
			t.Errorf("Item(%s): %v %d", short(d), l, e)
		}
	}
	holds(t, x, in...)
}

// In2: an address is told, and counted, once, in however many of its lists an item stands, and how often; it is gone
// with the last of them.
func TestItemOnce(t *testing.T) {
	one, a := integer(1), text("a")
	in := []api.Entry{
		entry(list(one), 5), entry(list(one, one), 5), entry(list(a, one), 5), entry(list(one, a, one), 5), entry(list(one), 6), entry(list(), 7),
		entry(list(a, a, a, a, a, a, a, a), 4),
	}
	x := with(t, in...)
	itemIs(t, x, one, 5, 6)
	itemIs(t, x, a, 4, 5)
	keys, numbers := x.Counts()
	if !slices.EqualFunc(keys, []api.Datum{one, a}, sameDatum) || !slices.Equal(numbers, []int{2, 2}) {
		t.Error(keys, numbers)
	}
	for i, e := range in[:3] {
		answers(t, x.Delete(e), api.OK)
		itemsAgree(t, x, in[i+1:])
		itemIs(t, x, one, 5, 6)
	}
	answers(t, x.Delete(in[3]), api.OK)
	itemIs(t, x, one, 6)
	itemIs(t, x, a, 4)
	itemsAgree(t, x, in[4:])
}

// In2: lists without items are counted by none.
func TestCountsOfNone(t *testing.T) {
	x := with(t, entry(list(), 0), entry(list(), 1), entry(list(), api.MaxTid-1))
	if keys, numbers := x.Counts(); len(keys) != 0 || len(numbers) != 0 {
		t.Error(keys, numbers)
	}
	finds(t, x, list(), 0, 1, api.MaxTid-1)
}

// In1, In2: items that many lists have are found among them, whatever stands beside them.
func TestSharedItems(t *testing.T) {
	const n = 400
	x := with(t)
	var all, even []int
	for i := range n {
		answers(t, x.Insert(entry(list(integer(-1), integer(i), text("z")), i)), api.OK)
		answers(t, x.Insert(entry(list(text("z"), integer(i%2)), n-i)), api.OK)
		all = append(all, i)
		if i%2 == 0 {
			even = append(even, n-i)
		}
	}
	slices.Sort(even)
	itemIs(t, x, integer(-1), all...)
	itemIs(t, x, text("z"), append(all, n)...)
	finds(t, x, list(text("z"), integer(0)), even...)
	for i := range n {
		finds(t, x, list(integer(-1), integer(i), text("z")), i)
		finds(t, x, list(text("z"), integer(i), integer(-1)))
	}
}
