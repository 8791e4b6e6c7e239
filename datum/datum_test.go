package datum_test

import (
	"testing"

	"vestibule/api"
	"vestibule/datum"
)

// Da1: Check.
func TestCheck(t *testing.T) {
	for _, d := range good() {
		if e := datum.Check(d); e != api.OK {
			t.Errorf("%+v: %d", d, e)
		}
	}
	for _, d := range bad() {
		if e := datum.Check(d); e != api.ErrDatum {
			t.Errorf("%+v: %d", d, e)
		}
	}
}

// R3: nil and the empty list are the same.
func TestCheckEmptyList(t *testing.T) {
	none := []api.Datum{}
	for _, d := range []api.Datum{{Kind: api.KindInt, N: 7, L: none}, {Kind: api.KindText, S: "x", L: none}, {Kind: api.KindList, L: none}} {
		if e := datum.Check(d); e != api.OK {
			t.Errorf("%+v: %d", d, e)
		}
	}
	if e := datum.Check(api.Datum{L: none}); e != api.ErrDatum {
		t.Error(e)
	}
	b, e := datum.Bytes(api.Datum{Kind: api.KindInt, N: 7, L: none})
	if x, _ := datum.Bytes(integer(7)); b != x || e != api.OK {
		t.Errorf("%q %d", b, e)
	}
}

// R3: what is handed in is not changed, and not read beyond its end.
func TestRoomBehindTheEnd(t *testing.T) {
	room := []api.Datum{integer(1), text("x"), {Kind: 9, N: 9, S: "z"}, list(list())}
	before := []api.Datum{integer(1), text("x"), {Kind: 9, N: 9, S: "z"}, list(list())}
	d := api.Datum{Kind: api.KindList, L: room[:2]}
	if e := datum.Check(d); e != api.OK {
		t.Error(e)
	}
	if _, e := datum.Compare(d, d); e != api.ErrKind {
		t.Error(e)
	}
	if s, e := datum.Print(d); s != "[1,'x']" || e != api.OK {
		t.Error(s, e)
	}
	if s, e := datum.Bytes(d); s != "\x03\x02\x01\x80\x00\x00\x00\x00\x00\x00\x01\x02x\x00\x00" || e != api.OK {
		t.Errorf("%q %d", s, e)
	}
	if _, e := datum.Hash(d); e != api.OK {
		t.Error(e)
	}
	for i := range room {
		if !same(room[i], before[i]) {
			t.Errorf("place %d: %+v", i, room[i])
		}
	}
}

func sign(n int) int {
	switch {
	case n < 0:
		return -1
	case n > 0:
		return 1
	}
	return 0
}

// Da1: Compare, of each pair of data whose order is known.
func TestCompare(t *testing.T) {
	l := rising()
	for i, a := range l {
		for j, b := range l {
			if c, e := datum.Compare(a, b); c != sign(i-j) || e != api.OK {
				t.Errorf("%+v, %+v: %d %d", a, b, c, e)
			}
		}
	}
}

// Da1: Compare refuses lists, and ahead of that what may not be.
func TestCompareRefuses(t *testing.T) {
	check := func(a, b api.Datum, want api.Errno) {
		t.Helper()
		if c, e := datum.Compare(a, b); c != 0 || e != want {
			t.Errorf("%+v, %+v: %d %d", a, b, c, e)
		}
	}
	for _, d := range bad() {
		for _, x := range []api.Datum{integer(1), text("a"), list(), list(integer(1)), d} {
			check(d, x, api.ErrDatum)
			check(x, d, api.ErrDatum)
		}
	}
	for _, d := range lists() {
		for _, x := range []api.Datum{integer(1), text("a"), list(), list(integer(1)), d} {
			check(d, x, api.ErrKind)
			check(x, d, api.ErrKind)
		}
	}
}
