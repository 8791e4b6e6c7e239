package pool_test

import (
	"math"
	"slices"
	"strings"
	"testing"
	"unsafe"

	"vestibule/api"
	"vestibule/disk"
	"vestibule/pool"
)

// noPages are numbers of no page.
var noPages = []int{-1, 4096, 4097, 8192, math.MinInt, math.MaxInt, -1 << 32, 1 << 32}

func open(t *testing.T, d *disk.Disk, frames int) *pool.Pool {
	t.Helper()
	p, e := pool.New(d, frames)
	if e != api.OK || p == nil {
		t.Fatalf("New of %d frames: %v %d", frames, p, e)
	}
	return p
}

func pin(t *testing.T, p *pool.Pool, pages ...int) {
	t.Helper()
	for _, page := range pages {
		if e := p.Pin(page); e != api.OK {
			t.Fatalf("Pin(%d): %d", page, e)
		}
	}
}

func unpin(t *testing.T, p *pool.Pool, pages ...int) {
	t.Helper()
	for _, page := range pages {
		if e := p.Unpin(page); e != api.OK {
			t.Fatalf("Unpin(%d): %d", page, e)
		}
	}
}

// ask pins each of the pages, and lets it go at once.
func ask(t *testing.T, p *pool.Pool, pages ...int) {
	t.Helper()
	for _, page := range pages {
		pin(t, p, page)
		unpin(t, p, page)
	}
}

func write(t *testing.T, p *pool.Pool, page, at int, s string) {
	t.Helper()
	if e := p.Write(page, at, s); e != api.OK {
		t.Fatalf("Write(%d, %d, %d bytes): %d", page, at, len(s), e)
	}
}

// change pins a page, writes, and lets it go.
func change(t *testing.T, p *pool.Pool, page, at int, s string) {
	t.Helper()
	pin(t, p, page)
	write(t, p, page, at, s)
	unpin(t, p, page)
}

func flush(t *testing.T, p *pool.Pool) {
	t.Helper()
	if e := p.Flush(); e != api.OK {
		t.Fatalf("Flush: %d", e)
	}
}

// padded is a page that begins with these bytes; the others are noughts.
func padded(s string) string { return s + strings.Repeat("\x00", 512-len(s)) }

// reads tells where a page that is pinned does not read as what these bytes begin.
func reads(t *testing.T, what string, p *pool.Pool, page int, want string) {
	t.Helper()
	if s, e := p.Read(page); s != padded(want) || e != api.OK {
		t.Errorf("%s: Read(%d): %d bytes %.40q %d, not %.40q", what, page, len(s), s, e, want)
	}
}

// held tells where not just these pages are in frames.
func held(t *testing.T, what string, p *pool.Pool, want ...int) {
	t.Helper()
	if l := p.Held(); !slices.Equal(l, want) {
		t.Errorf("%s: Held %v, not %v", what, l, want)
	}
}

// onDisk is a page as the disk has it: what file 1 does not have is noughts.
func onDisk(t *testing.T, d *disk.Disk, page int) string {
	t.Helper()
	s, e := d.Read(1, 0, d.Size(1))
	if e != api.OK {
		t.Fatalf("file 1: %d", e)
	}
	s += strings.Repeat("\x00", max(0, (page+1)*512-len(s)))
	return s[page*512 : (page+1)*512]
}

// writes tells where there were not so many raw writes.
func writes(t *testing.T, what string, d *disk.Disk, want int) {
	t.Helper()
	if d.Writes() != want {
		t.Errorf("%s: %d raw writes, not %d", what, d.Writes(), want)
	}
}

// Po1: New writes nothing, and holds nothing.
func TestNew(t *testing.T) {
	for _, frames := range []int{1, 2, 16, 1023, 1024} {
		d := disk.New()
		d.Write(1, 600, "ab")
		p := open(t, d, frames)
		held(t, "new", p)
		writes(t, "new", d, 1)
		if n := p.Pins(0); n != 0 {
			t.Errorf("Pins of a new one: %d", n)
		}
		flush(t, p)
		writes(t, "flushed", d, 1)
	}
}

// Po1: what New refuses.
func TestNewRefused(t *testing.T) {
	d := disk.New()
	copied := *d
	for _, x := range []*disk.Disk{nil, {}, &copied} {
		for _, frames := range []int{0, 1, 1024, 1025} {
			if p, e := pool.New(x, frames); p != nil || e != api.ErrArg {
				t.Errorf("no disk, %d frames: %v %d", frames, p, e)
			}
		}
	}
	for _, frames := range []int{0, -1, 1025, math.MinInt, math.MaxInt, 1 << 32, 1<<32 + 1} {
		if p, e := pool.New(d, frames); p != nil || e != api.ErrArg {
			t.Errorf("%d frames: %v %d", frames, p, e)
		}
	}
	writes(t, "refused", d, 0)
}

// Po1: the first page and the last one, and those of no page.
func TestPin(t *testing.T) {
	p := open(t, disk.New(), 3)
	pin(t, p, 4095, 0, 7)
	held(t, "pinned", p, 0, 7, 4095)
	for _, page := range noPages {
		if e := p.Pin(page); e != api.ErrArg {
			t.Errorf("Pin(%d), where all frames are pinned: %d", page, e)
		}
	}
	unpin(t, p, 7)
	for _, page := range noPages {
		if e := p.Pin(page); e != api.ErrArg {
			t.Errorf("Pin(%d): %d", page, e)
		}
		if n := p.Pins(page); n != 0 {
			t.Errorf("Pins(%d): %d", page, n)
		}
	}
	held(t, "refused", p, 0, 7, 4095)
}

// Po1: a page is pinned as often as it was pinned more than let go.
func TestPins(t *testing.T) {
	p := open(t, disk.New(), 2)
	pin(t, p, 9)
	for n := range 5 {
		for page, want := range map[int]int{5: n, 9: 1, 6: 0} {
			if got := p.Pins(page); got != want {
				t.Errorf("Pins(%d): %d, not %d", page, got, want)
			}
		}
		pin(t, p, 5)
	}
	for n := 5; n > 0; n-- {
		if got := p.Pins(5); got != n {
			t.Errorf("Pins(5): %d, not %d", got, n)
		}
		if e := p.Pin(6); e != api.ErrPins {
			t.Errorf("Pin(6), where 5 is pinned %d times: %d", n, e)
		}
		reads(t, "pinned", p, 5, "")
		unpin(t, p, 5)
	}
	if got := p.Pins(5); got != 0 {
		t.Errorf("Pins(5): %d, not 0", got)
	}
	held(t, "let go", p, 5, 9)
	pin(t, p, 6)
	held(t, "another in its frame", p, 6, 9)
}

// Po1: what is answered of a page that is not pinned, in a frame or not, whatever else is asked for.
func TestNotPinned(t *testing.T) {
	d := disk.New()
	p := open(t, d, 2)
	pin(t, p, 3)
	change(t, p, 4, 0, "x")
	for _, page := range append([]int{4, 5, 0, 4095}, noPages...) {
		if e := p.Unpin(page); e != api.ErrNone {
			t.Errorf("Unpin(%d): %d", page, e)
		}
		if s, e := p.Read(page); s != "" || e != api.ErrNone {
			t.Errorf("Read(%d): %q %d", page, s, e)
		}
		for _, at := range []int{0, -1, 512, 513} {
			for _, s := range []string{"", "y", strings.Repeat("y", 513)} {
				if e := p.Write(page, at, s); e != api.ErrNone {
					t.Errorf("Write(%d, %d, %d bytes): %d", page, at, len(s), e)
				}
			}
		}
		if n := p.Pins(page); n != 0 {
			t.Errorf("Pins(%d): %d", page, n)
		}
	}
	held(t, "refused", p, 3, 4)
	pin(t, p, 4)
	reads(t, "refused", p, 4, "x")
	flush(t, p)
	writes(t, "only one was changed", d, 1)
}

// Po1: ErrPins, if all frames hold pinned pages; those are pinned once more all the same. What is refused changes nothing (R2).
func TestAllPinned(t *testing.T) {
	for _, frames := range []int{1, 2, 5, 1024} {
		d := disk.New()
		p := open(t, d, frames)
		var all []int
		for page := range frames {
			pin(t, p, page)
			write(t, p, page, 0, "x")
			all = append(all, page)
		}
		for range 3 {
			if e := p.Pin(4000); e != api.ErrPins {
				t.Errorf("%d frames: %d", frames, e)
			}
		}
		held(t, "refused", p, all...)
		writes(t, "refused", d, 0)
		pin(t, p, all...)
		unpin(t, p, all...)
		if e := p.Pin(4000); e != api.ErrPins {
			t.Errorf("%d frames, each pinned once: %d", frames, e)
		}
		unpin(t, p, frames-1)
		pin(t, p, 4000)
		held(t, "one was let go", p, append(all[:frames-1:frames-1], 4000)...)
		writes(t, "one was let go", d, 1)
	}
}

// Po1: a page is in a frame as long as others are free; then one that is not pinned is let go, and no other.
func TestFramesFill(t *testing.T) {
	p := open(t, disk.New(), 4)
	ask(t, p, 8)
	held(t, "one", p, 8)
	ask(t, p, 2, 8, 5, 2, 11)
	held(t, "four", p, 2, 5, 8, 11)
	pin(t, p, 2, 8, 11)
	ask(t, p, 1)
	held(t, "just one could go", p, 1, 2, 8, 11)
	ask(t, p, 5)
	held(t, "just one could go", p, 2, 5, 8, 11)
	unpin(t, p, 8)
	pin(t, p, 5, 3)
	held(t, "just one could go", p, 2, 3, 5, 11)
}

// Po1: what the file does not have is noughts, also in a frame that held another page.
func TestPagesOfTheDisk(t *testing.T) {
	full := strings.Repeat("0123456789abcdef", 32)
	d := disk.New()
	d.Write(0, 0, strings.Repeat("no page", 300))
	d.Write(2, 0, strings.Repeat("no page", 300))
	d.Write(1, 0, full+strings.ToUpper(full)+"tail")
	p := open(t, d, 1)
	for range 2 {
		for page, want := range []string{full, strings.ToUpper(full), "tail", "", ""} {
			pin(t, p, page)
			reads(t, "of the disk", p, page, want)
			unpin(t, p, page)
		}
	}
	writes(t, "read only", d, 3)
	d.Trim(1, 1024)
	ask(t, p, 0)
	pin(t, p, 2)
	reads(t, "the file ends ahead of it", p, 2, "")
}

// Po1: the last page, of a file that is longer than all pages, and of one that ends within it.
func TestLastPage(t *testing.T) {
	d := disk.New()
	d.Write(1, 4095*512, strings.Repeat("l", 512)+"behind")
	p := open(t, d, 1)
	pin(t, p, 4095)
	reads(t, "of a long file", p, 4095, strings.Repeat("l", 512))
	write(t, p, 4095, 511, "m")
	flush(t, p)
	if s, e := d.Read(1, 4095*512, 518); s != strings.Repeat("l", 511)+"mbehind" || e != api.OK {
		t.Errorf("flushed: %q %d", s, e)
	}
	d.Trim(1, 4096*512-1)
	unpin(t, p, 4095)
	ask(t, p, 1)
	pin(t, p, 4095)
	reads(t, "of a file that ends within it", p, 4095, strings.Repeat("l", 511))
}

// Po1: Write, one behind the other on one page.
func TestWrite(t *testing.T) {
	p := open(t, disk.New(), 1)
	pin(t, p, 6)
	model := []byte(padded(""))
	for _, c := range []struct {
		at int
		s  string
	}{
		{0, ""}, {0, "ab"}, {1, "cd"}, {512, ""}, {511, "z"}, {510, "yx"}, {0, strings.Repeat("f", 512)}, {0, "\x00\xff"},
		{300, strings.Repeat("g", 212)}, {1, strings.Repeat("\x00", 511)}, {200, "\n"},
	} {
		write(t, p, 6, c.at, c.s)
		copy(model[c.at:], c.s)
		reads(t, "written", p, 6, string(model))
	}
}

// Po1: what Write refuses of a pinned page, and that it changes nothing then (R2).
func TestWriteRefused(t *testing.T) {
	d := disk.New()
	p := open(t, d, 1)
	change(t, p, 6, 0, strings.Repeat("a", 512))
	flush(t, p)
	pin(t, p, 6)
	for _, c := range []struct{ at, n int }{
		{-1, 0}, {-1, 1}, {-1, 5}, {-512, 512}, {-512, 513}, {513, 0}, {512, 1}, {511, 2}, {1, 512}, {0, 513}, {0, 1 << 20},
		{math.MaxInt, 0}, {math.MaxInt, 1}, {math.MaxInt, 513}, {math.MinInt, 0}, {math.MinInt, 1}, {math.MinInt, 513}, {1 << 32, 1}, {-1 << 32, 1},
	} {
		if e := p.Write(6, c.at, strings.Repeat("b", c.n)); e != api.ErrArg {
			t.Errorf("Write at %d of %d bytes: %d", c.at, c.n, e)
		}
	}
	reads(t, "refused", p, 6, strings.Repeat("a", 512))
	flush(t, p)
	writes(t, "refused", d, 1)
}

// Po1, R1: of a pool that New did not give.
func TestNoPool(t *testing.T) {
	d := disk.New()
	p := open(t, d, 2)
	pin(t, p, 1)
	write(t, p, 1, 0, "a")
	copied := *p
	for i, x := range []*pool.Pool{nil, {}, &copied} {
		for _, page := range []int{0, 1, -1, 4096} {
			if e := x.Pin(page); e != api.ErrArg {
				t.Errorf("%d: Pin(%d): %d", i, page, e)
			}
			if e := x.Unpin(page); e != api.ErrArg {
				t.Errorf("%d: Unpin(%d): %d", i, page, e)
			}
			if s, e := x.Read(page); s != "" || e != api.ErrArg {
				t.Errorf("%d: Read(%d): %q %d", i, page, s, e)
			}
			if e := x.Write(page, 0, "b"); e != api.ErrArg {
				t.Errorf("%d: Write(%d): %d", i, page, e)
			}
			if n := x.Pins(page); n != 0 {
				t.Errorf("%d: Pins(%d): %d", i, page, n)
			}
		}
		if e := x.Flush(); e != api.ErrArg {
			t.Errorf("%d: Flush: %d", i, e)
		}
		if l := x.Held(); len(l) != 0 {
			t.Errorf("%d: Held %v", i, l)
		}
	}
	writes(t, "no pool", d, 0)
	held(t, "the pool that was copied", p, 1)
	reads(t, "the pool that was copied", p, 1, "a")
}

// R3: a text that is handed in is not kept, and what is answered is new.
func TestNothingIsShared(t *testing.T) {
	b := []byte("abc")
	p := open(t, disk.New(), 3)
	pin(t, p, 1, 2, 3)
	write(t, p, 1, 0, unsafe.String(&b[0], len(b)))
	copy(b, "xyz")
	reads(t, "its text was changed", p, 1, "abc")
	s, _ := p.Read(1)
	write(t, p, 1, 0, "def")
	if s != padded("abc") {
		t.Errorf("what was read: %.40q", s)
	}
	l := p.Held()
	clear(l[:cap(l)])
	held(t, "a list that was told was changed", p, 1, 2, 3)
}

// The chapter's example.
func TestExample(t *testing.T) {
	p := open(t, disk.New(), 1)
	pin(t, p, 3)
	if e := p.Pin(4); e != api.ErrPins {
		t.Errorf("Pin(4): %d", e)
	}
	write(t, p, 3, 0, "x")
	unpin(t, p, 3)
	pin(t, p, 4)
	unpin(t, p, 4)
	pin(t, p, 3)
	reads(t, "through the disk", p, 3, "x")
}
