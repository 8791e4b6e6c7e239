package bitmapix_test

import (
	"fmt"
	"math"
	"slices"
	"strings"
	"testing"

	"vestibule/api"
	"vestibule/bitmapix"
	"vestibule/disk"
	"vestibule/method"
	"vestibule/space"
)

func integer(n int) api.Datum { return api.Datum{Kind: api.KindInt, N: n} }

func text(s string) api.Datum { return api.Datum{Kind: api.KindText, S: s} }

func list(l ...api.Datum) api.Datum { return api.Datum{Kind: api.KindList, L: l} }

func entry(key api.Datum, tid int) api.Entry { return api.Entry{Key: key, Tid: tid} }

// rising are keys of both kinds in the order of the document.
func rising() []api.Datum {
	return []api.Datum{
		integer(math.MinInt), integer(-1 << 32), integer(-257), integer(-1), integer(0), integer(1), integer(9), integer(10), integer(256), integer(math.MaxInt),
		text(""), text("\x00"), text("\x00\x00"), text("\x00\xff"), text("\x01"), text("\x03"), text("10"), text("9"), text("A"), text("a"), text("a\x00"),
		text("a\x00b"), text("a\x00\xff"), text("a\x01"), text("aa"), text("b"), text("\x80"), text("\xc3\xa4"), text("\xff"), text("\xff\x00"), text("\xff\xff"),
		text(strings.Repeat("\xff", api.MaxText)),
	}
}

// longest are the keys that take the most bytes, rising.
func longest(n int) []api.Datum {
	l := make([]api.Datum, n)
	for i := range l {
		l[i] = text(strings.Repeat("\x00", api.MaxText-5) + fmt.Sprint(10000+i))
	}
	return l
}

// lists are keys that a bitmap index does not take.
func lists() []api.Datum {
	return []api.Datum{list(), {Kind: api.KindList, L: []api.Datum{}}, list(integer(1)), list(text("a"), integer(1)), list(slices.Repeat([]api.Datum{text("a")}, api.MaxItems)...)}
}

// bad are data that may not be.
func bad() []api.Datum {
	return []api.Datum{
		{}, {Kind: -1}, {Kind: 4}, {N: 1}, {S: "a"}, {Kind: api.KindInt, S: "a"}, {Kind: api.KindInt, L: []api.Datum{integer(1)}},
		{Kind: api.KindText, N: 1}, {Kind: api.KindText, L: []api.Datum{text("a")}}, text(strings.Repeat("a", api.MaxText+1)),
		{Kind: api.KindList, N: 1}, {Kind: api.KindList, S: "a"}, list(list()), list(api.Datum{}),
		list(slices.Repeat([]api.Datum{integer(1)}, api.MaxItems+1)...), list(text(strings.Repeat("a", api.MaxText+1))),
	}
}

// badTids are numbers that are no addresses.
func badTids() []int {
	return []int{-1, api.MaxTid, api.MaxTid + 1, math.MinInt, math.MaxInt, -api.MaxTid, 1 << 32}
}

// goodTids are addresses, rising, whose bytes and bits are of all sorts.
func goodTids() []int {
	return []int{0, 1, 7, 8, 63, 64, 255, 256, 257, 511, 512, 65535, 65536, 1 << 17, api.MaxTid - 257, api.MaxTid - 256, api.MaxTid - 1}
}

// chance is numbers of all sorts, the same ones in each run.
type chance uint32

func (c *chance) below(n int) int {
	*c = *c*1664525 + 1013904223
	return int(*c>>8) % n
}

// mixed is a list in another order.
func mixed[T any](c *chance, l []T) []T {
	l = slices.Clone(l)
	for i := range l {
		j := i + c.below(len(l)-i)
		l[i], l[j] = l[j], l[i]
	}
	return l
}

// sameDatum tells whether two data are the same: nil and the empty list are.
func sameDatum(a, b api.Datum) bool {
	return a.Kind == b.Kind && a.N == b.N && a.S == b.S && slices.EqualFunc(a.L, b.L, sameDatum)
}

func sameEntry(a, b api.Entry) bool { return a.Tid == b.Tid && sameDatum(a.Key, b.Key) }

// short is the beginning of what a value is told as.
func short(x any) string {
	s := fmt.Sprint(x)
	return s[:min(len(s), 300)]
}

func answers(t *testing.T, e, want api.Errno) {
	t.Helper()
	if e != want {
		t.Fatalf("error %d, not %d", e, want)
	}
}

func open(t *testing.T, d *disk.Disk) *space.Space {
	t.Helper()
	s, e := space.Open(d, 8)
	answers(t, e, api.OK)
	return s
}

func begin(t *testing.T, s *space.Space) *space.Action {
	t.Helper()
	a, e := s.Begin()
	answers(t, e, api.OK)
	return a
}

func at(t *testing.T, a *space.Action, root int) *bitmapix.Bitmap {
	t.Helper()
	x, e := bitmapix.New(a, root)
	if e != api.OK || x == nil {
		t.Fatalf("New at %d: %v %d", root, x, e)
	}
	return x
}

// fresh is an empty index at the root 2 of a space, by an action of it.
func fresh(t *testing.T) (*space.Space, *space.Action, *bitmapix.Bitmap) {
	t.Helper()
	s := open(t, disk.New())
	a := begin(t, s)
	return s, a, at(t, a, 2)
}

// with is an index with entries that were inserted in this order.
func with(t *testing.T, l ...api.Entry) *bitmapix.Bitmap {
	t.Helper()
	_, _, x := fresh(t)
	for _, e := range l {
		answers(t, x.Insert(e), api.OK)
	}
	return x
}

// finds tells where the addresses of a key are not these.
func finds(t *testing.T, x *bitmapix.Bitmap, key api.Datum, want ...int) {
	t.Helper()
	if l, e := x.Find(key); e != api.OK || !slices.Equal(l, want) {
		t.Fatalf("Find(%s): %s %d, not %s", short(key), short(l), e, short(want))
	}
}

// counts tells where the keys and how many addresses each has are not as in these entries, which stand in order.
func counts(t *testing.T, x *bitmapix.Bitmap, l []api.Entry) {
	t.Helper()
	var keys []api.Datum
	var numbers []int
	for i, e := range l {
		if i == 0 || !sameDatum(e.Key, l[i-1].Key) {
			keys = append(keys, e.Key)
			numbers = append(numbers, 0)
		}
		numbers[len(numbers)-1]++
	}
	if k, n := x.Counts(); !slices.EqualFunc(k, keys, sameDatum) || !slices.Equal(n, numbers) {
		t.Fatalf("Counts: %s %s, not %s %s", short(k), short(n), short(keys), short(numbers))
	}
}

// onPages tells where an index of so many entries stands on more pages than it may, or Pages does not tell them as it must.
func onPages(t *testing.T, x *bitmapix.Bitmap, n int) {
	t.Helper()
	l := x.Pages()
	if len(l) > 2*n+8 || n > 0 && len(l) == 0 {
		t.Fatalf("%d entries on %d pages", n, len(l))
	}
	for i, page := range l {
		if page < 1 || page >= api.MaxPages || i > 0 && l[i-1] >= page {
			t.Fatalf("Pages: %s", short(l))
		}
	}
}

// holds tells where the entries are not these, in order, or the index does not stand as it must.
func holds(t *testing.T, x *bitmapix.Bitmap, want ...api.Entry) {
	t.Helper()
	if l := x.Entries(); !slices.EqualFunc(l, want, sameEntry) {
		t.Fatalf("Entries: %d %s, not %d %s", len(l), short(l), len(want), short(want))
	}
	if !x.Check() || x.Name() != "bitmap" {
		t.Fatalf("Check %t, Name %q", x.Check(), x.Name())
	}
	counts(t, x, want)
	onPages(t, x, len(want))
}

// agrees tells where an index is not as a method that holds its entries in hand.
func agrees(t *testing.T, x *bitmapix.Bitmap, p *method.Plain) {
	t.Helper()
	all := p.Entries()
	holds(t, x, all...)
	for i, e := range all {
		if i == 0 || !sameDatum(e.Key, all[i-1].Key) {
			l, _ := p.Find(e.Key)
			finds(t, x, e.Key, l...)
		}
	}
}

// allUsed tells where a page of a space is neither free nor one of these indexes', as the last finished action left it.
func allUsed(t *testing.T, s *space.Space, l ...*bitmapix.Bitmap) {
	t.Helper()
	count, all := s.Pages()
	for _, x := range l {
		all = append(all, x.Pages()...)
	}
	slices.Sort(all)
	for i := range max(count, len(all)) {
		if len(all) != count || all[i] != i+1 {
			t.Fatalf("%d pages, not each once: %s", count, short(all))
		}
	}
}

// refusesAll tells where a call of an index is not refused in this way, nothing or false where it answers no error.
func refusesAll(t *testing.T, what string, x *bitmapix.Bitmap, want api.Errno) {
	t.Helper()
	one, no, deep := integer(1), api.Datum{}, list()
	for _, key := range []api.Datum{one, no, deep} {
		for _, tid := range []int{1, 2, -1} {
			answers(t, x.Insert(entry(key, tid)), want)
			answers(t, x.Delete(entry(key, tid)), want)
		}
		if l, e := x.Find(key); len(l) != 0 || e != want {
			t.Errorf("%s: Find: %v %d", what, l, e)
		}
	}
	answers(t, x.Drop(), want)
	keys, numbers := x.Counts()
	if len(x.Entries()) != 0 || len(x.Pages()) != 0 || x.Check() || len(keys) != 0 || len(numbers) != 0 {
		t.Errorf("%s: %v %v %v %v %v", what, x.Entries(), x.Pages(), x.Check(), keys, numbers)
	}
}

// plainWith is a method that holds entries in hand.
func plainWith(t *testing.T, l ...api.Entry) *method.Plain {
	t.Helper()
	p := method.NewPlain()
	for _, e := range l {
		answers(t, p.Insert(e), api.OK)
	}
	return p
}

// sorted are so many entries in order, of keys of both kinds, some with several addresses.
func sorted(n int) []api.Entry {
	var l []api.Entry
	for i := 0; len(l) < n/2; i++ {
		for tid := range 1 + i%3 {
			l = append(l, entry(integer(7*i-n), 100*tid+i%5))
		}
	}
	l = l[:n/2]
	for _, key := range longest(n - n/2) {
		l = append(l, entry(key, api.MaxTid-1-len(l)))
	}
	return l
}
