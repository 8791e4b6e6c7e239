package inverted_test

import (
	"fmt"
	"maps"
	"math"
	"slices"
	"strings"
	"testing"

	"vestibule/api"
	"vestibule/datum"
	"vestibule/disk"
	"vestibule/inverted"
	"vestibule/method"
	"vestibule/space"
)

func integer(n int) api.Datum { return api.Datum{Kind: api.KindInt, N: n} }

func text(s string) api.Datum { return api.Datum{Kind: api.KindText, S: s} }

func list(l ...api.Datum) api.Datum { return api.Datum{Kind: api.KindList, L: l} }

func entry(key api.Datum, tid int) api.Entry { return api.Entry{Key: key, Tid: tid} }

// items are data that may be items, in the order of the document.
func items() []api.Datum {
	return []api.Datum{
		integer(math.MinInt), integer(-1 << 32), integer(-257), integer(-1), integer(0), integer(1), integer(9), integer(10), integer(256), integer(math.MaxInt),
		text(""), text("\x00"), text("\x00\x00"), text("\x00\xff"), text("\x01"), text("\x03"), text("10"), text("9"), text("A"), text("a"), text("a\x00"),
		text("a\x00b"), text("a\x00\xff"), text("a\x01"), text("aa"), text("b"), text("\x80"), text("\xc3\xa4"), text("\xff"), text("\xff\x00"), text("\xff\xff"),
		text(strings.Repeat("\x00", api.MaxText)), text(strings.Repeat("\xff", api.MaxText)),
	}
}

// rising are keys in the order of the document: lists by their bytes, of which the second one is how many items there are.
func rising() []api.Datum {
	a, b, one, two := text("a"), text("b"), integer(1), integer(2)
	longer := slices.Repeat([]api.Datum{one}, api.MaxItems-1)
	return []api.Datum{
		list(),
		list(integer(math.MinInt)), list(integer(-1)), list(one), list(two), list(text("")), list(text("\x00")), list(a), list(text("a\x00")), list(b),
		list(one, one), list(one, two), list(one, a), list(two, one), list(a, one), list(a, a), list(a, text("a\x00")), list(a, b), list(b, a),
		list(one, one, two), list(one, a, one), list(one, a, two), list(one, b, a), list(two, one, one), list(a, one, one), list(a, b, one),
		list(longer...),
		list(append(slices.Clone(longer), one)...), list(append(slices.Clone(longer), two)...), list(append(slices.Clone(longer), a)...),
		list(one, two, integer(3), integer(4), a, b, text("c"), text("d")), list(slices.Repeat([]api.Datum{a}, api.MaxItems)...),
		list(slices.Repeat([]api.Datum{text(strings.Repeat("\xff", api.MaxText))}, api.MaxItems)...),
	}
}

// longItem is one of the items that take the most bytes; they rise.
func longItem(n int) api.Datum {
	end := []byte{byte(1 + n/40000), byte(1 + n/200%200), byte(1 + n%200)}
	return text(strings.Repeat("\x00", api.MaxText-len(end)) + string(end))
}

// longest are keys of as many such items as may be, rising, that share none.
func longest(n int) []api.Datum {
	l := make([]api.Datum, n)
	for i := range l {
		for j := range api.MaxItems {
			l[i].L = append(l[i].L, longItem(i*api.MaxItems+j))
		}
		l[i].Kind = api.KindList
	}
	return l
}

// single are keys of one item each, rising.
func single(n int) []api.Datum {
	l := make([]api.Datum, n)
	for i := range l {
		l[i] = list(integer(i))
	}
	return l
}

// noLists are keys that an inverted index does not take.
func noLists() []api.Datum { return items() }

// lists are no items, though they may be data.
func lists() []api.Datum {
	return append(rising(), api.Datum{Kind: api.KindList, L: []api.Datum{}})
}

// bad are data that may not be.
func bad() []api.Datum {
	return []api.Datum{
		{}, {Kind: -1}, {Kind: 4}, {N: 1}, {S: "a"}, {Kind: api.KindInt, S: "a"}, {Kind: api.KindInt, L: []api.Datum{integer(1)}},
		{Kind: api.KindText, N: 1}, {Kind: api.KindText, L: []api.Datum{text("a")}}, text(strings.Repeat("a", api.MaxText+1)),
		{Kind: api.KindList, N: 1}, {Kind: api.KindList, S: "a"}, {Kind: api.KindList, N: 1, L: []api.Datum{integer(1)}},
		list(list()), list(integer(1), list(integer(1))), list(api.Datum{}), list(integer(1), api.Datum{Kind: api.KindInt, S: "a"}),
		list(slices.Repeat([]api.Datum{integer(1)}, api.MaxItems+1)...), list(text(strings.Repeat("a", api.MaxText+1))),
	}
}

// badTids are numbers that are no addresses.
func badTids() []int {
	return []int{-1, api.MaxTid, api.MaxTid + 1, math.MinInt, math.MaxInt, -api.MaxTid, 1 << 32}
}

// goodTids are addresses, rising, whose bytes are of all sorts.
func goodTids() []int {
	return []int{0, 1, 63, 255, 256, 257, 65535, 65536, 1 << 17, api.MaxTid - 256, api.MaxTid - 1}
}

// chance is numbers of all sorts, the same ones in each run.
type chance uint32

func (c *chance) below(n int) int {
	*c = *c*1664525 + 1013904223
	return int(*c>>8) % n
}

// key is a list of some of these items, of so many at most.
func (c *chance) key(of []api.Datum, most int) api.Datum {
	var l []api.Datum
	for range c.below(most + 1) {
		l = append(l, of[c.below(len(of))])
	}
	return list(l...)
}

// mixed is a list in another order.
func mixed[T any](c *chance, l []T) []T {
	l = slices.Clone(l)
	for i := range l {
		j := i + c.below(len(l)-i)
		l[i], l[j] = l[j], l[i]
	}
	return l
}

// sameDatum tells whether two data are the same: nil and the empty list are.
func sameDatum(a, b api.Datum) bool {
	return a.Kind == b.Kind && a.N == b.N && a.S == b.S && slices.EqualFunc(a.L, b.L, sameDatum)
}

func sameEntry(a, b api.Entry) bool { return a.Tid == b.Tid && sameDatum(a.Key, b.Key) }

// short is the beginning of what a value is told as.
func short(x any) string {
	s := fmt.Sprint(x)
	return s[:min(len(s), 300)]
}

func answers(t *testing.T, e, want api.Errno) {
	t.Helper()
	if e != want {
		t.Fatalf("error %d, not %d", e, want)
	}
}

func open(t *testing.T, d *disk.Disk) *space.Space {
	t.Helper()
	s, e := space.Open(d, 8)
	answers(t, e, api.OK)
	return s
}

func begin(t *testing.T, s *space.Space) *space.Action {
	t.Helper()
	a, e := s.Begin()
	answers(t, e, api.OK)
	return a
}

func at(t *testing.T, a *space.Action, root int) *inverted.Inverted {
	t.Helper()
	x, e := inverted.New(a, root)
	if e != api.OK || x == nil {
		t.Fatalf("New at %d: %v %d", root, x, e)
	}
	return x
}

// fresh is an empty index at the root 2 of a space, by an action of it.
func fresh(t *testing.T) (*space.Space, *space.Action, *inverted.Inverted) {
	t.Helper()
	s := open(t, disk.New())
	a := begin(t, s)
	return s, a, at(t, a, 2)
}

// with is an index with entries that were inserted in this order.
func with(t *testing.T, l ...api.Entry) *inverted.Inverted {
	t.Helper()
	_, _, x := fresh(t)
	for _, e := range l {
		answers(t, x.Insert(e), api.OK)
	}
	return x
}

// finds tells where the addresses of a key are not these.
func finds(t *testing.T, x *inverted.Inverted, key api.Datum, want ...int) {
	t.Helper()
	if l, e := x.Find(key); e != api.OK || !slices.Equal(l, want) {
		t.Fatalf("Find(%s): %s %d, not %s", short(key), short(l), e, short(want))
	}
}

// itemIs tells where the addresses of an item are not these.
func itemIs(t *testing.T, x *inverted.Inverted, d api.Datum, want ...int) {
	t.Helper()
	if l, e := x.Item(d); e != api.OK || !slices.Equal(l, want) {
		t.Fatalf("Item(%s): %s %d, not %s", short(d), short(l), e, short(want))
	}
}

// hasItem tells whether a list has an item.
func hasItem(key, d api.Datum) bool {
	return slices.ContainsFunc(key.L, func(x api.Datum) bool { return sameDatum(x, d) })
}

// tidsOf are the addresses of all entries whose list has an item, each once, rising.
func tidsOf(l []api.Entry, d api.Datum) []int {
	var tids []int
	for _, e := range l {
		if hasItem(e.Key, d) {
			tids = append(tids, e.Tid)
		}
	}
	slices.Sort(tids)
	return slices.Compact(tids)
}

// itemsOf are the items of all lists, each once, rising.
func itemsOf(l []api.Entry) []api.Datum {
	m := map[string]api.Datum{}
	for _, e := range l {
		for _, d := range e.Key.L {
			b, _ := datum.Bytes(d)
			m[b] = d
		}
	}
	return slices.SortedFunc(maps.Values(m), func(a, b api.Datum) int {
		order, _ := datum.Compare(a, b)
		return order
	})
}

// counts tells where the items, and how many addresses each has, are not as of these entries.
func counts(t *testing.T, x *inverted.Inverted, l []api.Entry) {
	t.Helper()
	want := itemsOf(l)
	keys, numbers := x.Counts()
	if !slices.EqualFunc(keys, want, sameDatum) || len(numbers) != len(want) {
		t.Fatalf("Counts: %s %s, not %s", short(keys), short(numbers), short(want))
	}
	for i, d := range want {
		if n := len(tidsOf(l, d)); n != numbers[i] {
			t.Fatalf("Counts: %d of %s, not %d", numbers[i], short(d), n)
		}
	}
}

// itemsAgree tells where an item does not find just the entries whose lists have it.
func itemsAgree(t *testing.T, x *inverted.Inverted, l []api.Entry) {
	t.Helper()
	counts(t, x, l)
	for _, d := range append(itemsOf(l), items()...) {
		itemIs(t, x, d, tidsOf(l, d)...)
	}
}

// onPages tells where an index of so many entries stands on more pages than it may, or Pages does not tell them as it must.
func onPages(t *testing.T, x *inverted.Inverted, n int) {
	t.Helper()
	l := x.Pages()
	if len(l) > 8*n+8 || (n == 0) != (len(l) == 0) {
		t.Fatalf("%d entries on %d pages", n, len(l))
	}
	for i, page := range l {
		if page < 1 || page >= api.MaxPages || i > 0 && l[i-1] >= page {
			t.Fatalf("Pages: %s", short(l))
		}
	}
}

// holds tells where the entries are not these, in order, or the index does not stand as it must.
func holds(t *testing.T, x *inverted.Inverted, want ...api.Entry) {
	t.Helper()
	if l := x.Entries(); !slices.EqualFunc(l, want, sameEntry) {
		t.Fatalf("Entries: %d %s, not %d %s", len(l), short(l), len(want), short(want))
	}
	if !x.Check() || x.Name() != "inverted" {
		t.Fatalf("Check %t, Name %q", x.Check(), x.Name())
	}
	onPages(t, x, len(want))
}

// agrees tells where an index is not as a method that holds its entries in hand.
func agrees(t *testing.T, x *inverted.Inverted, p *method.Plain) {
	t.Helper()
	all := p.Entries()
	holds(t, x, all...)
	for i, e := range all {
		if i == 0 || !sameDatum(e.Key, all[i-1].Key) {
			l, _ := p.Find(e.Key)
			finds(t, x, e.Key, l...)
		}
	}
	itemsAgree(t, x, all)
}

// allUsed tells where a page of a space is neither free nor one of these indexes', as the last finished action left it.
func allUsed(t *testing.T, s *space.Space, l ...*inverted.Inverted) {
	t.Helper()
	count, all := s.Pages()
	for _, x := range l {
		all = append(all, x.Pages()...)
	}
	slices.Sort(all)
	for i := range max(count, len(all)) {
		if len(all) != count || all[i] != i+1 {
			t.Fatalf("%d pages, not each once: %s", count, short(all))
		}
	}
}

// refusesAll tells where a call of an index is not refused in this way, nothing or false where it answers no error.
func refusesAll(t *testing.T, what string, x *inverted.Inverted, want api.Errno) {
	t.Helper()
	for _, d := range []api.Datum{list(integer(1)), list(), integer(1), text("a"), {}, list(list())} {
		for _, tid := range []int{1, 2, -1} {
			answers(t, x.Insert(entry(d, tid)), want)
			answers(t, x.Delete(entry(d, tid)), want)
		}
		if l, e := x.Find(d); len(l) != 0 || e != want {
			t.Errorf("%s: Find: %v %d", what, l, e)
		}
		if l, e := x.Item(d); len(l) != 0 || e != want {
			t.Errorf("%s: Item: %v %d", what, l, e)
		}
	}
	answers(t, x.Drop(), want)
	keys, numbers := x.Counts()
	if len(x.Entries()) != 0 || len(x.Pages()) != 0 || x.Check() || len(keys) != 0 || len(numbers) != 0 {
		t.Errorf("%s: %v %v %v %v %v", what, x.Entries(), x.Pages(), x.Check(), keys, numbers)
	}
}

// plainWith is a method that holds entries in hand.
func plainWith(t *testing.T, l ...api.Entry) *method.Plain {
	t.Helper()
	p := method.NewPlain()
	for _, e := range l {
		answers(t, p.Insert(e), api.OK)
	}
	return p
}

// sorted are so many entries in order, of lists of all sorts, some with several addresses.
func sorted(n int) []api.Entry {
	p := method.NewPlain()
	c := chance(41)
	l := p.Entries()
	for i := 0; len(l) < n; i++ {
		key := c.key(items(), api.MaxItems)
		if i%5 == 0 {
			key = list(longItem(i), integer(i%7), longItem(i+1))
		}
		p.Insert(entry(key, c.below(30)))
		p.Insert(entry(key, api.MaxTid-1-i))
		l = p.Entries()
	}
	return l[:n]
}
