package btree_test

import (
	"testing"

	"vestibule/api"
	"vestibule/space"
)

// fill takes all pages that are left, and tells them.
func fill(t *testing.T, a *space.Action) []int {
	t.Helper()
	var l []int
	for {
		page, e := a.Alloc()
		if e == api.ErrFull {
			return l
		}
		answers(t, e, api.OK)
		l = append(l, page)
	}
}

// Am1: where no page is left, what needs one is refused, behind all else that it could be refused for; what needs none
// is done.
func TestInsertFull(t *testing.T) {
	_, a, x := fresh(t)
	keys := longest(400)
	var in []api.Entry
	filled := fill(t, a)
	answers(t, x.Insert(entry(keys[0], 1)), api.ErrFull)
	answers(t, x.Insert(entry(keys[0], -1)), api.ErrArg)
	answers(t, x.Insert(entry(list(), 1)), api.ErrKind)
	holds(t, x)
	for _, page := range filled[:20] {
		answers(t, a.Free(page), api.OK)
	}
	var e api.Errno
	for _, key := range keys {
		if e = x.Insert(entry(key, 1)); e != api.OK {
			break
		}
		in = append(in, entry(key, 1))
	}
	answers(t, e, api.ErrFull)
	if len(in) < 60 {
		t.Errorf("%d entries on 20 pages", len(in))
	}
	holds(t, x, in...)
	for _, e := range in {
		answers(t, x.Insert(e), api.ErrName)
	}
	for i, e := range in {
		answers(t, x.Delete(e), api.OK)
		if i%10 == 0 {
			holds(t, x, in[i+1:]...)
		}
	}
	answers(t, a.Abort(), api.OK)
}

// Bt2: what finds no pages is not loaded, and leaves an empty index, which takes what does.
func TestLoadFull(t *testing.T) {
	s, a, x := fresh(t)
	var all []api.Entry
	for i, key := range longest(2000) {
		all = append(all, entry(key, i))
	}
	filled := fill(t, a)
	answers(t, x.Load(all[:1]), api.ErrFull)
	answers(t, x.Load(nil), api.OK)
	for _, page := range filled[:30] {
		answers(t, a.Free(page), api.OK)
	}
	for range 2 {
		answers(t, x.Load(all), api.ErrFull)
		holds(t, x)
		if l := x.Pages(); len(l) != 0 {
			t.Fatal(l)
		}
	}
	answers(t, x.Load([]api.Entry{all[1], all[0]}), api.ErrArg)
	answers(t, x.Load(all[:90]), api.OK)
	holds(t, x, all[:90]...)
	answers(t, x.Load(all), api.ErrName)
	answers(t, a.Abort(), api.OK)
	holds(t, at(t, begin(t, s), 2))
}
