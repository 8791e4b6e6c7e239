package hashix_test

import (
	"testing"

	"vestibule/api"
	"vestibule/space"
)

// fill takes all pages that are left, and tells them.
func fill(t *testing.T, a *space.Action) []int {
	t.Helper()
	var l []int
	for {
		page, e := a.Alloc()
		if e == api.ErrFull {
			return l
		}
		answers(t, e, api.OK)
		l = append(l, page)
	}
}

// Am1: where no page is left, what needs one is refused, behind all else that it could be refused for; what needs none
// is done.
func TestInsertFull(t *testing.T) {
	_, a, x := fresh(t)
	keys := longest(400)
	var in []api.Entry
	filled := fill(t, a)
	answers(t, x.Insert(entry(keys[0], 1)), api.ErrFull)
	answers(t, x.Insert(entry(keys[0], -1)), api.ErrArg)
	answers(t, x.Insert(entry(list(), 1)), api.ErrKind)
	holds(t, x)
	for _, page := range filled[:20] {
		answers(t, a.Free(page), api.OK)
	}
	var e api.Errno
	for _, key := range keys {
		if e = x.Insert(entry(key, 1)); e != api.OK {
			break
		}
		in = append(in, entry(key, 1))
	}
	answers(t, e, api.ErrFull)
	if len(in) < 60 {
		t.Errorf("%d entries on 20 pages", len(in))
	}
	holds(t, x, in...)
	for _, e := range in {
		answers(t, x.Insert(e), api.ErrName)
	}
	for i, e := range in {
		answers(t, x.Delete(e), api.OK)
		if i%10 == 0 {
			holds(t, x, in[i+1:]...)
		}
	}
	answers(t, a.Abort(), api.OK)
}

// Am1, Ha2: where the bucket that is split needs a page more, and none is left, the Insert is refused, and leaves no trace.
func TestSplitFull(t *testing.T) {
	s, a, x := fresh(t)
	w := spread{buckets: 1}
	var in []api.Entry
	for i := range 16 {
		in = append(in, entry(integer(i), i))
		answers(t, x.Insert(in[i]), api.OK)
		w.insert()
	}
	filled := fill(t, a)
	for i := 16; i < 20; i++ {
		answers(t, x.Insert(entry(integer(i), i)), api.ErrFull)
		answers(t, x.Insert(in[i-16]), api.ErrName)
		hasBuckets(t, x, w)
		holds(t, x, in...)
	}
	answers(t, x.Delete(in[15]), api.OK)
	answers(t, x.Insert(entry(integer(100), 0)), api.OK)
	hasBuckets(t, x, w)
	answers(t, x.Insert(in[15]), api.ErrFull)
	answers(t, a.Free(filled[0]), api.OK)
	answers(t, x.Insert(in[15]), api.OK)
	w.insert()
	hasBuckets(t, x, w)
	holds(t, x, append(in, entry(integer(100), 0))...)
	answers(t, a.Abort(), api.OK)
	holds(t, at(t, begin(t, s), 2))
}

// Am1: an empty index needs pages for its first entry; one that is refused gives back what it took.
func TestFirstFull(t *testing.T) {
	_, a, x := fresh(t)
	filled := fill(t, a)
	for n := 0; ; n++ {
		e := x.Insert(entry(integer(1), 1))
		if e == api.OK {
			break
		}
		if n > 8 || e != api.ErrFull || len(x.Pages()) != 0 || len(fill(t, a)) != n {
			t.Fatalf("%d pages: %d, on %v", n, e, x.Pages())
		}
		for _, page := range filled[:n+1] {
			a.Free(page)
		}
	}
	holds(t, x, entry(integer(1), 1))
}

// Am1: an index fills all pages that there are, and each entry is found; when it is taken out again, they are free.
func TestFillAll(t *testing.T) {
	s, a, x := fresh(t)
	w := spread{buckets: 1}
	keys := longest(29000)
	n := 0
	for e := api.OK; e == api.OK; n++ {
		if n%2000 == 1999 {
			answers(t, a.Commit(), api.OK)
			a = begin(t, s)
			x = at(t, a, 2)
		}
		if e = x.Insert(entry(keys[n], n)); e != api.OK {
			answers(t, e, api.ErrFull)
			break
		}
		w.insert()
	}
	hasBuckets(t, x, w)
	if n != w.count || n < 27000 || !x.Check() || len(x.Entries()) != n || len(x.Pages()) < 4090 {
		t.Fatalf("%d entries, of which %d are held, on %d pages", n, len(x.Entries()), len(x.Pages()))
	}
	for i := 0; i < n; i += 100 {
		finds(t, x, keys[i], i)
	}
	for i, key := range keys[:n] {
		if i%100 > 0 {
			answers(t, x.Delete(entry(key, i)), api.OK)
		}
		if i%2000 == 1999 {
			answers(t, a.Commit(), api.OK)
			a = begin(t, s)
			x = at(t, a, 2)
		}
	}
	hasBuckets(t, x, w)
	onPages(t, x, len(x.Entries()))
	answers(t, x.Drop(), api.OK)
	answers(t, a.Commit(), api.OK)
	allUsed(t, s)
}
