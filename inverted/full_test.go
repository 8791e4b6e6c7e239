package inverted_test

import (
	"testing"

	"vestibule/api"
	"vestibule/space"
)

// fill takes all pages that are left, and tells them.
func fill(t *testing.T, a *space.Action) []int {
	t.Helper()
	var l []int
	for {
		page, e := a.Alloc()
		if e == api.ErrFull {
			return l
		}
		answers(t, e, api.OK)
		l = append(l, page)
	}
}

// Am1: where no page is left, what needs one is refused, behind all else that it could be refused for, and leaves nothing
// of it; what needs none is done.
func TestInsertFull(t *testing.T) {
	for pages := range 24 {
		c := chance(pages)
		var long, short, none []api.Entry
		for i, key := range mixed(&c, longest(200)) {
			long = append(long, entry(key, 1+c.below(3)))
			short = append(short, entry(list(integer(c.below(9))), i), entry(list(), i))
			none = append(none, entry(list(), 50*i), entry(list(integer(i)), 50*i), entry(list(), 50*i+1))
		}
		for _, l := range [][]api.Entry{long, short, mixed(&c, none)} {
			insertTillFull(t, pages, l)
		}
	}
}

// insertTillFull inserts entries where so many pages are left, till it is refused, and takes them out.
func insertTillFull(t *testing.T, pages int, l []api.Entry) {
	t.Helper()
	_, a, x := fresh(t)
	filled := fill(t, a)
	answers(t, x.Insert(l[0]), api.ErrFull)
	answers(t, x.Insert(entry(l[0].Key, -1)), api.ErrArg)
	answers(t, x.Insert(entry(integer(1), 1)), api.ErrKind)
	holds(t, x)
	for _, page := range filled[:pages] {
		answers(t, a.Free(page), api.OK)
	}
	p := plainWith(t)
	n := 0
	for ; n < len(l); n++ {
		if e := x.Insert(l[n]); e != api.OK {
			answers(t, e, api.ErrFull)
			finds(t, x, l[n].Key, first(p.Find(l[n].Key))...)
			break
		}
		answers(t, p.Insert(l[n]), api.OK)
	}
	if n < pages/4 || n == len(l) {
		t.Errorf("%d entries on %d pages", n, pages)
	}
	agrees(t, x, p)
	if n := len(x.Pages()) + len(fill(t, a)); n != pages {
		t.Errorf("%d pages of %d", n, pages)
	}
	for _, e := range l[:n] {
		answers(t, x.Insert(e), api.ErrName)
	}
	for i, e := range l[:n] {
		answers(t, x.Delete(e), api.OK)
		answers(t, p.Delete(e), api.OK)
		if i%9 == 0 {
			agrees(t, x, p)
		}
	}
	holds(t, x)
	answers(t, a.Abort(), api.OK)
}

// first is the first one of two.
func first[A, B any](a A, b B) A { return a }

// Am1: where no page is left, each entry can be taken out, of addresses with one key and with many.
func TestDeleteFull(t *testing.T) {
	_, a, x := fresh(t)
	in := sorted(300)
	for _, key := range manyKeys()[:most] {
		in = append(in, entry(key, 40))
	}
	p := plainWith(t, in...)
	c := chance(4)
	in = mixed(&c, in)
	for _, e := range in {
		answers(t, x.Insert(e), api.OK)
	}
	fill(t, a)
	for i, e := range in {
		answers(t, x.Delete(e), api.OK)
		answers(t, p.Delete(e), api.OK)
		if i%40 == 0 {
			agrees(t, x, p)
			fill(t, a)
		}
	}
	holds(t, x)
}

// Am1, In1: an address that has as many keys as may be is told so also where no page is left.
func TestMostKeysFull(t *testing.T) {
	_, a, x := fresh(t)
	keys := manyKeys()
	for _, key := range keys[:most] {
		answers(t, x.Insert(entry(key, 0)), api.OK)
	}
	fill(t, a)
	answers(t, x.Insert(entry(keys[most], 0)), api.ErrFull)
	answers(t, x.Insert(entry(keys[1], 0)), api.ErrName)
	finds(t, x, keys[most])
}
