package method_test

import (
	"cmp"
	"fmt"
	"math"
	"slices"
	"strings"
	"testing"

	"vestibule/api"
	"vestibule/datum"
	"vestibule/method"
)

func integer(n int) api.Datum { return api.Datum{Kind: api.KindInt, N: n} }

func text(s string) api.Datum { return api.Datum{Kind: api.KindText, S: s} }

func list(l ...api.Datum) api.Datum { return api.Datum{Kind: api.KindList, L: l} }

func entry(key api.Datum, tid int) api.Entry { return api.Entry{Key: key, Tid: tid} }

// rising are keys of all kinds in the order of the document: lists by their bytes, behind all others.
func rising() []api.Datum {
	return []api.Datum{
		integer(math.MinInt), integer(-1 << 32), integer(-257), integer(-1), integer(0), integer(1), integer(9), integer(10), integer(256), integer(math.MaxInt),
		text(""), text("\x00"), text("\x00\xff"), text("\x01"), text("\x03"), text("10"), text("9"), text("A"), text("a"), text("a\x00"), text("a\x00b"), text("aa"),
		text("b"), text("\x80"), text("\xc3\xa4"), text("\xff"), text("\xff\x00"), text("\xff\xff"), text(strings.Repeat("\xff", api.MaxText)),
		list(), list(integer(-1)), list(integer(9)), list(integer(10)), list(text("")), list(text("b")),
		list(integer(1), integer(2)), list(integer(2), integer(1)), list(text("a"), integer(1)), list(text("a"), text("a")),
		list(integer(0), integer(0), integer(0)), list(slices.Repeat([]api.Datum{text(strings.Repeat("\xff", api.MaxText))}, api.MaxItems)...),
	}
}

// lists is how many of rising are lists.
const lists = 12

// bad are data that may not be.
func bad() []api.Datum {
	return []api.Datum{
		{}, {Kind: -1}, {Kind: 4}, {N: 1}, {S: "a"}, {Kind: api.KindInt, S: "a"}, {Kind: api.KindInt, L: []api.Datum{integer(1)}},
		{Kind: api.KindText, N: 1}, {Kind: api.KindText, L: []api.Datum{text("a")}}, text(strings.Repeat("a", api.MaxText+1)),
		{Kind: api.KindList, N: 1}, {Kind: api.KindList, S: "a"}, list(list()), list(list(integer(1))), list(api.Datum{}),
		list(slices.Repeat([]api.Datum{integer(1)}, api.MaxItems+1)...), list(text(strings.Repeat("a", api.MaxText+1))),
	}
}

// badTids are numbers that are no addresses.
func badTids() []int {
	return []int{-1, api.MaxTid, api.MaxTid + 1, math.MinInt, math.MaxInt, -api.MaxTid, 1 << 32}
}

// chance is numbers of all sorts, the same ones in each run.
type chance uint32

func (c *chance) below(n int) int {
	*c = *c*1664525 + 1013904223
	return int(*c>>8) % n
}

// mixed is a list in another order.
func mixed[T any](c *chance, l []T) []T {
	l = slices.Clone(l)
	for i := range l {
		j := i + c.below(len(l)-i)
		l[i], l[j] = l[j], l[i]
	}
	return l
}

// sameDatum tells whether two data are the same: nil and the empty list are.
func sameDatum(a, b api.Datum) bool {
	return a.Kind == b.Kind && a.N == b.N && a.S == b.S && slices.EqualFunc(a.L, b.L, sameDatum)
}

func sameEntry(a, b api.Entry) bool { return a.Tid == b.Tid && sameDatum(a.Key, b.Key) }

// hand is entries in no order, each once: what a method is held against.
type hand struct{ l []api.Entry }

func (h *hand) at(e api.Entry) int {
	return slices.IndexFunc(h.l, func(x api.Entry) bool { return sameEntry(x, e) })
}

func (h *hand) insert(e api.Entry) api.Errno {
	if h.at(e) >= 0 {
		return api.ErrName
	}
	h.l = append(h.l, e)
	return api.OK
}

func (h *hand) delete(e api.Entry) api.Errno {
	at := h.at(e)
	if at < 0 {
		return api.ErrNone
	}
	h.l[at] = h.l[len(h.l)-1]
	h.l = h.l[:len(h.l)-1]
	return api.OK
}

func (h *hand) find(key api.Datum) []int {
	var l []int
	for _, e := range h.l {
		if sameDatum(e.Key, key) {
			l = append(l, e.Tid)
		}
	}
	slices.Sort(l)
	return l
}

// entries are all in order, as the order of data, the bytes of lists, and numbers have it.
func (h *hand) entries() []api.Entry {
	l := slices.Clone(h.l)
	slices.SortFunc(l, func(a, b api.Entry) int { return cmp.Or(compareKeys(a.Key, b.Key), a.Tid-b.Tid) })
	return l
}

func compareKeys(a, b api.Datum) int {
	c, e := datum.Compare(a, b)
	if e == api.OK {
		return c
	}
	x, _ := datum.Bytes(a)
	y, _ := datum.Bytes(b)
	return cmp.Or(cmp.Compare(isList(a), isList(b)), strings.Compare(x, y))
}

func isList(d api.Datum) int {
	if d.Kind == api.KindList {
		return 1
	}
	return 0
}

// ranged are the entries within two ends; nil is none.
func (h *hand) ranged(from, to *api.Datum, back bool) []api.Entry {
	l := slices.DeleteFunc(h.entries(), func(e api.Entry) bool {
		return isList(e.Key) == 1 || from != nil && compareKeys(e.Key, *from) < 0 || to != nil && compareKeys(e.Key, *to) > 0
	})
	if back {
		slices.Reverse(l)
	}
	return l
}

// short is the beginning of what a value is told as.
func short(x any) string {
	s := fmt.Sprint(x)
	return s[:min(len(s), 300)]
}

// with is a Plain with entries.
func with(t *testing.T, l ...api.Entry) *method.Plain {
	t.Helper()
	p := method.NewPlain()
	if p == nil {
		t.Fatal("NewPlain: none")
	}
	for _, e := range l {
		answers(t, p.Insert(e), api.OK)
	}
	return p
}

func answers(t *testing.T, e, want api.Errno) {
	t.Helper()
	if e != want {
		t.Fatalf("error %d, not %d", e, want)
	}
}

// finds tells where the addresses of a key are not these.
func finds(t *testing.T, p *method.Plain, key api.Datum, want ...int) {
	t.Helper()
	if l, e := p.Find(key); e != api.OK || !slices.Equal(l, want) {
		t.Fatalf("Find(%s): %s %d, not %s", short(key), short(l), e, short(want))
	}
}

// holds tells where the entries are not these, in order.
func holds(t *testing.T, p *method.Plain, want ...api.Entry) {
	t.Helper()
	if l := p.Entries(); !slices.EqualFunc(l, want, sameEntry) {
		t.Fatalf("Entries: %d %s, not %d %s", len(l), short(l), len(want), short(want))
	}
}

// ranges tells where the entries within two ends are not these, forth and back.
func ranges(t *testing.T, p *method.Plain, from, to *api.Datum, want ...api.Entry) {
	t.Helper()
	want = slices.Clone(want)
	for _, back := range []bool{false, true} {
		if l, e := p.Range(from, to, back); e != api.OK || !slices.EqualFunc(l, want, sameEntry) {
			t.Fatalf("Range(%s, %s, %v): %s %d, not %s", end(from), end(to), back, short(l), e, short(want))
		}
		slices.Reverse(want)
	}
}

// end is what an end of a range is told as.
func end(d *api.Datum) string {
	if d == nil {
		return "none"
	}
	return short(*d)
}

// refusesRange tells where a range is not refused in this way.
func refusesRange(t *testing.T, p *method.Plain, from, to *api.Datum, want api.Errno) {
	t.Helper()
	for _, back := range []bool{false, true} {
		if l, e := p.Range(from, to, back); e != want || len(l) != 0 {
			t.Fatalf("Range(%s, %s, %v): %s %d, not %d", end(from), end(to), back, short(l), e, want)
		}
	}
}

// agrees tells where a Plain is not as what is in hand.
func agrees(t *testing.T, p *method.Plain, h *hand) {
	t.Helper()
	holds(t, p, h.entries()...)
	for _, e := range h.l {
		finds(t, p, e.Key, h.find(e.Key)...)
	}
	if !p.Check() || len(p.Pages()) != 0 {
		t.Fatal("Check, Pages:", p.Check(), p.Pages())
	}
}
