package bitmapix_test

import (
	"testing"

	"vestibule/api"
	"vestibule/space"
)

// fill takes all pages that are left, and tells them.
func fill(t *testing.T, a *space.Action) []int {
	t.Helper()
	var l []int
	for {
		page, e := a.Alloc()
		if e == api.ErrFull {
			return l
		}
		answers(t, e, api.OK)
		l = append(l, page)
	}
}

// Am1: where no page is left, what needs one is refused, behind all else that it could be refused for; what needs none
// is done.
func TestInsertFull(t *testing.T) {
	_, a, x := fresh(t)
	keys := longest(400)
	var in []api.Entry
	filled := fill(t, a)
	answers(t, x.Insert(entry(keys[0], 1)), api.ErrFull)
	answers(t, x.Insert(entry(keys[0], -1)), api.ErrArg)
	answers(t, x.Insert(entry(list(), 1)), api.ErrKind)
	holds(t, x)
	for _, page := range filled[:20] {
		answers(t, a.Free(page), api.OK)
	}
	var e api.Errno
	for _, key := range keys {
		if e = x.Insert(entry(key, 1)); e != api.OK {
			break
		}
		in = append(in, entry(key, 1))
	}
	answers(t, e, api.ErrFull)
	if len(in) < 40 {
		t.Errorf("%d entries on 20 pages", len(in))
	}
	holds(t, x, in...)
	for _, e := range in {
		answers(t, x.Insert(e), api.ErrName)
	}
	for i, e := range in {
		answers(t, x.Delete(e), api.OK)
		if i%10 == 0 {
			holds(t, x, in[i+1:]...)
		}
	}
	answers(t, a.Abort(), api.OK)
}

// Am1: where no page is left, an address is put and taken out beside others, which needs none.
func TestBesideFull(t *testing.T) {
	_, a, x := fresh(t)
	var in []api.Entry
	for _, key := range longest(40) {
		in = append(in, entry(key, 300))
		answers(t, x.Insert(entry(key, 300)), api.OK)
	}
	fill(t, a)
	for _, key := range longest(40) {
		answers(t, x.Insert(entry(key, 256)), api.OK)
		answers(t, x.Insert(entry(key, 511)), api.OK)
	}
	for _, e := range in {
		finds(t, x, e.Key, 256, 300, 511)
		answers(t, x.Delete(entry(e.Key, 256)), api.OK)
		answers(t, x.Delete(entry(e.Key, 511)), api.OK)
	}
	holds(t, x, in...)
	for i, e := range in {
		answers(t, x.Delete(e), api.OK)
		holds(t, x, in[i+1:]...)
	}
}
