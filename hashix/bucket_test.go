package hashix_test

import (
	"math"
	"slices"
	"strings"
	"testing"

	"vestibule/api"
	"vestibule/datum"
	"vestibule/disk"
	"vestibule/hashix"
)

// spread is what the document says of the buckets of an index: how many there are, and how many entries.
type spread struct {
	buckets, count int
}

// insert is an Insert that was done.
func (w *spread) insert() {
	w.count++
	if w.count > 16*w.buckets && w.buckets < 250 {
		w.buckets++
	}
}

// power is the greatest power of two that is not above how many buckets there are.
func (w *spread) power() int {
	p := 1
	for 2*p <= w.buckets {
		p *= 2
	}
	return p
}

// bucket is which one a key is in.
func (w *spread) bucket(key api.Datum) int {
	b, _ := datum.Bytes(key)
	h := uint32(2166136261)
	for _, c := range []byte(b) {
		h = (h ^ uint32(c)) * 16777619
	}
	if n := int(h) % (2 * w.power()); n < w.buckets {
		return n
	}
	return int(h) % w.power()
}

// hasBuckets tells where the buckets of an index are not as the document says.
func hasBuckets(t *testing.T, x *hashix.Hash, w spread) {
	t.Helper()
	if n, split := x.Buckets(); n != w.buckets || split != w.buckets-w.power() {
		t.Fatalf("%d entries: Buckets %d %d, not %d %d", w.count, n, split, w.buckets, w.buckets-w.power())
	}
}

// inBuckets tells where a key is not in the bucket that the document says.
func inBuckets(t *testing.T, x *hashix.Hash, w spread, keys ...api.Datum) {
	t.Helper()
	for _, key := range keys {
		if n, e := x.Bucket(key); n != w.bucket(key) || e != api.OK {
			t.Fatalf("%d buckets: Bucket(%s): %d %d, not %d", w.buckets, short(key), n, e, w.bucket(key))
		}
	}
}

// The example of the chapter.
func TestExample(t *testing.T) {
	x := with(t)
	for i := range 33 {
		answers(t, x.Insert(entry(integer(i), i)), api.OK)
		n, split := x.Buckets()
		if i == 16 && (n != 2 || split != 0) || i == 32 && (n != 3 || split != 1) {
			t.Errorf("%d entries: %d %d", i+1, n, split)
		}
	}
}

// Ha2, Ha3: behind each Insert there is one bucket more, if there are then more than 16 times as many entries, till there
// are 250 of them; each key is in the bucket that the document says, and found there.
func TestBuckets(t *testing.T) {
	c := chance(5)
	ints := make([]api.Datum, 2200)
	for i := range ints {
		ints[i] = integer(i*i*i - 1000000)
	}
	x, w := with(t), spread{buckets: 1}
	hasBuckets(t, x, w)
	keys := rising()
	for i, key := range mixed(&c, slices.Concat(ints, longest(2200))) {
		inBuckets(t, x, w, key)
		answers(t, x.Insert(entry(key, i)), api.OK)
		w.insert()
		hasBuckets(t, x, w)
		inBuckets(t, x, w, key)
		finds(t, x, key, i)
		if i%100 == 0 || w.count%16 == 1 && w.buckets < 20 {
			inBuckets(t, x, w, keys...)
			inBuckets(t, x, w, ints[:200]...)
			if !x.Check() {
				t.Fatalf("%d entries: Check", w.count)
			}
		}
	}
	if w.buckets != 250 || w.count != 4400 || len(x.Entries()) != 4400 {
		t.Error(w, len(x.Entries()))
	}
}

// Ha2: of one key, too: its bucket is split as often, though nothing is dealt out.
func TestBucketsOneKey(t *testing.T) {
	x, w := with(t), spread{buckets: 1}
	var want []int
	for i := range 700 {
		answers(t, x.Insert(entry(text("k"), i)), api.OK)
		w.insert()
		hasBuckets(t, x, w)
		want = append(want, i)
	}
	finds(t, x, text("k"), want...)
	inBuckets(t, x, w, text("k"))
	if !x.Check() {
		t.Error("Check")
	}
}

// Ha2: Delete lets the buckets be, so that the next one comes when there are as many entries again; Drop leads to one.
func TestBucketsStay(t *testing.T) {
	s, a, x := fresh(t)
	w := spread{buckets: 1}
	all := sorted(330)
	for _, e := range all {
		answers(t, x.Insert(e), api.OK)
		w.insert()
	}
	for _, e := range all {
		answers(t, x.Delete(e), api.OK)
		w.count--
		hasBuckets(t, x, w)
	}
	holds(t, x)
	if w.buckets != 21 {
		t.Error(w)
	}
	answers(t, a.Commit(), api.OK)
	a = begin(t, s)
	x = at(t, a, 2)
	hasBuckets(t, x, w)
	allUsed(t, s, x)
	for range 2 {
		for _, e := range all {
			answers(t, x.Insert(e), api.OK)
			w.insert()
			hasBuckets(t, x, w)
			inBuckets(t, x, w, e.Key)
		}
		holds(t, x, all...)
		answers(t, x.Drop(), api.OK)
		w = spread{buckets: 1}
		hasBuckets(t, x, w)
		holds(t, x)
	}
}

// Am1, Ha2: a bucket of many pages with few entries each is dealt out to fewer; those that are left are free.
func TestSplitSparse(t *testing.T) {
	s, a, x := fresh(t)
	w := spread{buckets: 1}
	var all []api.Entry
	for i := range 400 {
		e := entry(text("k"), i)
		answers(t, x.Insert(e), api.OK)
		w.insert()
		if i%10 == 0 {
			all = append(all, e)
		}
	}
	for i := range 400 {
		if i%10 != 0 {
			answers(t, x.Delete(entry(text("k"), i)), api.OK)
			w.count--
		}
	}
	before := len(x.Pages())
	for i := range 1200 {
		e := entry(integer(i), i)
		answers(t, x.Insert(e), api.OK)
		w.insert()
		all = append(all, e)
	}
	hasBuckets(t, x, w)
	holds(t, x, plainWith(t, all...).Entries()...)
	if before < 8 || w.buckets < 64 || len(x.Pages()) > before+w.buckets {
		t.Errorf("%d pages, then %d, %d buckets", before, len(x.Pages()), w.buckets)
	}
	answers(t, a.Commit(), api.OK)
	allUsed(t, s, at(t, begin(t, s), 2))
}

// Ha2, R2: an Insert that is refused is none.
func TestBucketsRefused(t *testing.T) {
	x, w := with(t), spread{buckets: 1}
	for i := range 100 {
		answers(t, x.Insert(entry(integer(i), i)), api.OK)
		w.insert()
		for range 20 {
			answers(t, x.Insert(entry(integer(i), i)), api.ErrName)
			answers(t, x.Insert(entry(integer(i), -1)), api.ErrArg)
			answers(t, x.Insert(entry(list(), i)), api.ErrKind)
			answers(t, x.Delete(entry(integer(i), i+1)), api.ErrNone)
		}
		hasBuckets(t, x, w)
	}
}

// Ha2: Bucket refuses what Find does.
func TestBucketRefuses(t *testing.T) {
	for _, n := range []int{0, 1, 40} {
		x := with(t, sorted(n)...)
		for _, key := range bad() {
			if b, e := x.Bucket(key); b != 0 || e != api.ErrArg {
				t.Errorf("Bucket(%s): %d %d", short(key), b, e)
			}
		}
		for _, key := range lists() {
			if b, e := x.Bucket(key); b != 0 || e != api.ErrKind {
				t.Errorf("Bucket(%s): %d %d", short(key), b, e)
			}
		}
	}
}

// Ha1, Ha2: the buckets of an index are its root's, for whoever opens the disk anew; what is aborted splits none.
func TestBucketsCommitted(t *testing.T) {
	d := disk.New()
	s := open(t, d)
	c := chance(77)
	w, p := spread{buckets: 1}, sorted(0)
	for round := range 12 {
		a := begin(t, s)
		x, y := at(t, a, 3), at(t, a, 0)
		hasBuckets(t, x, w)
		hasBuckets(t, y, spread{buckets: 1})
		after, more := w, slices.Clone(p)
		for range 1 + c.below(60) {
			e := entry(integer(c.below(math.MaxInt32)), len(more))
			answers(t, x.Insert(e), api.OK)
			more = append(more, e)
			after.insert()
		}
		hasBuckets(t, x, after)
		if round%3 == 2 {
			answers(t, a.Abort(), api.OK)
		} else {
			answers(t, a.Commit(), api.OK)
			w, p = after, more
		}
		if round%2 == 1 {
			s = open(t, d)
		}
	}
	x := at(t, begin(t, s), 3)
	holds(t, x, plainWith(t, p...).Entries()...)
}

// keysIn are so many keys of those that are in a bucket, as long as w lets the buckets be.
func keysIn(w spread, bucket, n int) []api.Datum {
	var l []api.Datum
	for i := 0; len(l) < n; i++ {
		if key := integer(i); w.bucket(key) == bucket {
			l = append(l, key)
		}
	}
	return l
}

// Ha3: Check tells an entry that is not in its key's bucket.
func TestCheckBuckets(t *testing.T) {
	for _, n := range []int{17, 40, 100} {
		_, a, x := fresh(t)
		w := spread{buckets: 1}
		for i := range n {
			answers(t, x.Insert(entry(integer(-i), i)), api.OK)
			w.insert()
		}
		was := integer(-5)
		page, spot, ok := standsAt(x, func(page int) string { b, _ := a.Read(page); return b }, was)
		if !ok {
			t.Fatal("not found")
		}
		for bucket := range w.buckets {
			for _, key := range keysIn(w, bucket, 3) {
				b, _ := datum.Bytes(key)
				answers(t, a.Write(page, spot, b), api.OK)
				if x.Check() != (bucket == w.bucket(was)) {
					t.Fatalf("%d entries, bucket %d of %s: Check %t", n, bucket, short(key), x.Check())
				}
			}
		}
	}
}

// standsAt is the page of an index on which a key stands, and where.
func standsAt(x *hashix.Hash, read func(page int) string, key api.Datum) (int, int, bool) {
	b, _ := datum.Bytes(key)
	for _, page := range x.Pages() {
		if at := strings.Index(read(page), b); at >= 0 {
			return page, at, true
		}
	}
	return 0, 0, false
}
