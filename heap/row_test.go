package heap_test

import (
	"math"
	"slices"
	"strings"
	"testing"

	"vestibule/api"
	"vestibule/datum"
	"vestibule/heap"
)

func integer(n int) api.Datum { return api.Datum{Kind: api.KindInt, N: n} }

func text(s string) api.Datum { return api.Datum{Kind: api.KindText, S: s} }

func list(l ...api.Datum) api.Datum { return api.Datum{Kind: api.KindList, L: l} }

// same tells whether two data are the same: nil and the empty list are.
func same(a, b api.Datum) bool {
	return a.Kind == b.Kind && a.N == b.N && a.S == b.S && slices.EqualFunc(a.L, b.L, same)
}

// large is a list whose bytes are so many, 26 at least.
func large(size int) api.Datum {
	d := list(make([]api.Datum, 8)...)
	size -= 2 + 8*3
	for i := range d.L {
		n := min(size, 64) // noughts of a text are two bytes each
		size -= n
		d.L[i] = text(strings.Repeat("\x00", n/2) + strings.Repeat("x", n%2))
	}
	return d
}

// rows are cells that are rows.
func rows() [][]api.Datum {
	return [][]api.Datum{
		nil, {}, {integer(0)}, {integer(math.MinInt)}, {text("")}, {text("\x00")}, {list()}, {{Kind: api.KindList, L: []api.Datum{}}},
		{integer(1), integer(2)}, {integer(1), text("x"), list(integer(1), text("x")), integer(-1)},
		{text(strings.Repeat("\xff", 32)), text(""), text("\x00\xff"), text(strings.Repeat("\x00", 32))},
		{list(), list(list().L...), list(text("")), list(integer(7), integer(7))}, {list(text("a"), text("b")), integer(5)},
		{large(399)}, {large(398)}, {integer(1), large(390)}, {large(26), large(373)}, {large(100), large(100), large(100), large(99)},
		{text(""), text(""), text(""), large(390)},
	}
}

// noCells are cells that are no rows.
func noCells() [][]api.Datum {
	return [][]api.Datum{
		make([]api.Datum, 5), slices.Repeat([]api.Datum{integer(1)}, 5), slices.Repeat([]api.Datum{text("")}, 6), slices.Repeat([]api.Datum{integer(1)}, 257),
		slices.Repeat([]api.Datum{integer(1)}, 70000),
		{{}}, {integer(1), {}}, {{}, integer(1)}, {integer(1), integer(2), integer(3), {Kind: 4}}, {{Kind: api.KindInt, S: "x"}}, {{Kind: api.KindText, N: 1}},
		{text(strings.Repeat("a", 33))}, {integer(1), text(strings.Repeat("a", 33))}, {list(list())}, {list(slices.Repeat([]api.Datum{integer(1)}, 9)...)},
		{{Kind: api.KindList, N: 1}}, {integer(1), list(api.Datum{})},
		{large(400)}, {large(401)}, {large(512)}, {large(538)}, {integer(1), large(391)}, {large(200), large(200)}, {large(100), large(100), large(100), large(100)},
		{large(538), large(538), large(538), large(538)},
	}
}

// Hp2: the page of an address.
func TestPage(t *testing.T) {
	for tid, want := range map[int]int{
		0: 0, 1: 0, 63: 0, 64: 1, 65: 1, 127: 1, 128: 2, 6400: 100, 4095*64 + 63: 4095, 4096 * 64: 4096, 1<<24 - 1: 1<<18 - 1, 1 << 24: 1 << 18,
		math.MaxInt: math.MaxInt / 64, 1 << 40: 1 << 34, -1: 0, -63: 0, -64: 0, -65: 0, -6400: 0, math.MinInt: 0,
	} {
		if got := heap.Page(tid); got != want {
			t.Errorf("Page(%d): %d, not %d", tid, got, want)
		}
	}
}

// Hp2: the bytes of cells are a byte that says how many, and the bytes of each; and they are these cells'.
func TestBytes(t *testing.T) {
	longest := 0
	for i, l := range rows() {
		want := string([]byte{byte(len(l))})
		for _, d := range l {
			b, _ := datum.Bytes(d)
			want += b
		}
		s, e := heap.Bytes(l)
		if s != want || e != api.OK {
			t.Errorf("row %d: Bytes: %q %d, not %q", i, s, e, want)
		}
		longest = max(longest, len(s))
		if back, e := heap.Of(s); !slices.EqualFunc(back, l, same) || e != api.OK {
			t.Errorf("row %d: Of: %v %d", i, back, e)
		}
	}
	if longest != 400 {
		t.Errorf("%d bytes at most", longest)
	}
	s, e := heap.Bytes([]api.Datum{integer(5), text("x")})
	if s != "\x02\x01\x80\x00\x00\x00\x00\x00\x00\x05\x02x\x00\x00" || e != api.OK {
		t.Errorf("Bytes: %q %d", s, e)
	}
}

// Hp2: cells that are no row have no bytes.
func TestBytesRefused(t *testing.T) {
	for i, l := range noCells() {
		if s, e := heap.Bytes(l); s != "" || e != api.ErrRow {
			t.Errorf("%d: Bytes: %d bytes %d", i, len(s), e)
		}
	}
}

// plain is the bytes of cells, whether they are a row or not.
func plain(count int, l ...api.Datum) string {
	s := string([]byte{byte(count)})
	for _, d := range l {
		b, _ := datum.Bytes(d)
		s += b
	}
	return s
}

// Hp2: bytes that are not just those of a row's cells.
func TestOfRefused(t *testing.T) {
	five := slices.Repeat([]api.Datum{integer(1)}, 5)
	long := "\x02" + strings.Repeat("a", 33) + "\x00\x00"
	l := []string{
		"", plain(5, five...), plain(255, five...), plain(1), plain(4, five[:3]...), plain(4, five...), plain(0, integer(1)), plain(0) + "\x00",
		plain(1, integer(1)) + "\x00", plain(1, large(399)) + "\x00", plain(1, large(400)), plain(2, large(200), large(200)), plain(4, large(538), large(538), large(538), large(538)),
		"\x01" + long, "\x02" + plain(1, integer(1))[1:] + long, "\x01\x00", "\x01\x04", "\x01\x03\x09" + strings.Repeat(plain(1, text(""))[1:], 9), "\x01\x03\x01\x03\x00",
		"\x01\x02a\x00\x01", "\x01\x02a\x00", "\x01\x02a", strings.Repeat("\x00", 400), strings.Repeat("\x01", 70000),
	}
	for _, row := range rows() {
		s, _ := heap.Bytes(row)
		for n := range s {
			if n != 1 || s[0] != 0 {
				l = append(l, s[:n])
			}
		}
		l = append(l, s+s, s+"\x00", s+"\x01", s+plain(1, integer(1))[1:])
	}
	for i, s := range l {
		if cells, e := heap.Of(s); len(cells) != 0 || e != api.ErrRow {
			t.Errorf("%d: Of(%.40q): %v %d", i, s, cells, e)
		}
	}
}

// Hp2: whatever bytes are handed in, Of tells cells whose bytes they are, or refuses.
func TestOfEachByte(t *testing.T) {
	for _, row := range rows() {
		s, _ := heap.Bytes(row)
		for i := range min(len(s), 60) {
			for b := range 256 {
				x := s[:i] + string([]byte{byte(b)}) + s[i+1:]
				cells, e := heap.Of(x)
				if e == api.ErrRow && len(cells) == 0 {
					continue
				}
				if back, f := heap.Bytes(cells); back != x || e != api.OK || f != api.OK {
					t.Fatalf("Of(%q): %v %d, Bytes %q %d", x, cells, e, back, f)
				}
			}
		}
	}
}

// R3: no two lists of what Of answers share memory, nor do two answers.
func TestOfIsNew(t *testing.T) {
	row := []api.Datum{list(integer(1), integer(2)), list(integer(3)), list(), integer(4)}
	s, _ := heap.Bytes(row)
	cells, _ := heap.Of(s)
	other, _ := heap.Of(s)
	spoil := func(l []api.Datum) {
		l = l[:cap(l)]
		for i := range l {
			l[i] = text("spoiled")
		}
	}
	lists := [][]api.Datum{other[0].L, other[1].L, other[2].L}
	spoil(other)
	for i, l := range lists {
		if !slices.EqualFunc(l, row[i].L, same) {
			t.Errorf("list %d: %v", i, l)
		}
		spoil(l)
	}
	if !slices.EqualFunc(cells, row, same) {
		t.Errorf("Of: %v", cells)
	}
}

// R3: Bytes reads no cell behind the list's end, and changes none.
func TestBytesOfAPiece(t *testing.T) {
	l := []api.Datum{integer(1), list(integer(2), text("x")), {}, text(strings.Repeat("a", 40))}
	l[1].L = l[1].L[:1]
	kept := slices.Clone(l)
	s, e := heap.Bytes(l[:2])
	if want := plain(2, integer(1), list(integer(2))); s != want || e != api.OK {
		t.Errorf("Bytes: %q %d", s, e)
	}
	if !slices.EqualFunc(l, kept, same) || !same(l[1].L[:2][1], text("x")) {
		t.Errorf("Bytes changed %v", l)
	}
}
