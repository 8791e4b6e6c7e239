package datum_test

import (
	"math"
	"strings"

	"vestibule/api"
)

func integer(n int) api.Datum { return api.Datum{Kind: api.KindInt, N: n} }

func text(s string) api.Datum { return api.Datum{Kind: api.KindText, S: s} }

func list(l ...api.Datum) api.Datum { return api.Datum{Kind: api.KindList, L: l} }

// same tells whether two data are the same: nil and the empty list are.
func same(a, b api.Datum) bool {
	if a.Kind != b.Kind || a.N != b.N || a.S != b.S || len(a.L) != len(b.L) {
		return false
	}
	for i := range a.L {
		if !same(a.L[i], b.L[i]) {
			return false
		}
	}
	return true
}

// isZero tells whether each field of a datum is zero.
func isZero(d api.Datum) bool { return same(d, api.Datum{}) }

// rising are integers and texts in the order of the document.
func rising() []api.Datum {
	var l []api.Datum
	for _, n := range []int{
		math.MinInt64, math.MinInt64 + 1, -1 << 32, -1 << 31, -65536, -257, -256, -255, -2, -1,
		0, 1, 2, 127, 128, 255, 256, 65535, 65536, 1 << 31, 1 << 32, 1 << 56, math.MaxInt64 - 1, math.MaxInt64,
	} {
		l = append(l, integer(n))
	}
	for _, s := range []string{
		"", "\x00", "\x00\x00", "\x00\x00\x01", "\x00\x01", "\x00\xfe", "\x00\xff", "\x00\xff\x00", "\x01", "\x02", "\x03",
		" ", "!", "%", "'", "0", "00", "A", "a", "a\x00", "a\x00\x00", "a\x00b", "a\x01", "a b", "aa",
		strings.Repeat("a", 31), strings.Repeat("a", 31) + "\x00", strings.Repeat("a", 32), strings.Repeat("a", 31) + "b",
		"b", "~", "\x7f", "\x80", "\xc3\xa9", "\xff", "\xff\x00", "\xff\xff",
	} {
		l = append(l, text(s))
	}
	return l
}

// lists are some that may be.
func lists() []api.Datum {
	full := make([]api.Datum, 8)
	for i := range full {
		full[i] = text(strings.Repeat("\x00", 32))
	}
	return []api.Datum{
		list(), {Kind: api.KindList, L: []api.Datum{}}, list(integer(0)), list(text("")), list(integer(1), text("x")),
		list(text("x"), integer(1)), list(integer(1), integer(1)), list(text(","), text("]"), text("['")),
		list(integer(1), integer(2), integer(3), integer(4), integer(5), integer(6), integer(7), integer(-8)), list(full...),
	}
}

// good are data that may be, of all kinds.
func good() []api.Datum { return append(rising(), lists()...) }

// bad are data that may not be.
func bad() []api.Datum {
	circle := list(api.Datum{})
	circle.L[0] = circle
	l := []api.Datum{
		{}, {Kind: -1}, {Kind: 4}, {N: 1}, {S: "a"}, {L: []api.Datum{integer(1)}}, {Kind: 4, S: "a"},
		{Kind: api.KindInt, S: "a"}, {Kind: api.KindInt, N: 1, S: "a"}, {Kind: api.KindInt, L: []api.Datum{integer(1)}},
		{Kind: api.KindText, N: 1}, {Kind: api.KindText, N: -1, S: "a"}, {Kind: api.KindText, L: []api.Datum{text("a")}},
		text(strings.Repeat("a", 33)), text(strings.Repeat("a", 1000)),
		{Kind: api.KindList, N: 1}, {Kind: api.KindList, N: -1, L: []api.Datum{integer(1)}}, {Kind: api.KindList, S: "a"},
		{Kind: api.KindList, L: make([]api.Datum, 9)},
		list(integer(1), integer(2), integer(3), integer(4), integer(5), integer(6), integer(7), integer(8), integer(9)),
		list(list()), list(list(integer(1))), circle,
	}
	for _, d := range l[:15] { // each of them as an item
		l = append(l, list(d), list(integer(1), d), list(d, text("a")))
	}
	return l
}
