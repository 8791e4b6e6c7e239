package space_test

import (
	"maps"
	"strconv"
	"testing"

	"vestibule/api"
	"vestibule/disk"
	"vestibule/space"
)

func cut(t *testing.T, d *disk.Disk, n int) *disk.Disk {
	t.Helper()
	c, e := d.Cut(n)
	if e != api.OK {
		t.Fatalf("Cut(%d): %d", n, e)
	}
	return c
}

// chance is numbers of all sorts, the same ones in each run.
type chance uint32

func (c *chance) below(n int) int {
	*c = *c*1664525 + 1013904223
	return int(*c>>8) % n
}

func (c *chance) bytes(n int) string {
	b := make([]byte, n)
	for i := range b {
		b[i] = byte(c.below(256))
	}
	return string(b)
}

// hand is a space in hand: its pages that are not free, and its roots.
type hand struct {
	count int
	pages map[int]string
	roots [16]int
}

func (h hand) clone() hand {
	h.pages = maps.Clone(h.pages)
	return h
}

func (h hand) free() []int {
	var l []int
	for page := 1; page <= h.count; page++ {
		if _, ok := h.pages[page]; !ok {
			l = append(l, page)
		}
	}
	return l
}

// some is a page that is not free; 0, if there is none.
func (h hand) some(c *chance) int {
	for range 20 {
		if page := 1 + c.below(h.count+1); h.pages[page] != "" {
			return page
		}
	}
	return 0
}

// same tells whether a space is the one in hand.
func (h hand) same(t *testing.T, s *space.Space) bool {
	t.Helper()
	count, free := s.Pages()
	want := h.free()
	if count != h.count || len(free) != len(want) || s.Pinned() != 0 {
		return false
	}
	for i, page := range free {
		if page != want[i] {
			return false
		}
	}
	a := begin(t, s)
	defer a.Abort()
	for page := 0; page <= h.count+1; page++ {
		w, there := h.pages[page]
		if got, e := a.Read(page); got != w || (e == api.OK) != there || e != api.OK && e != api.ErrNone {
			return false
		}
	}
	for k, n := range h.roots {
		if got, e := a.Root(k); got != n || e != api.OK {
			return false
		}
	}
	return true
}

// step does a call of some sort in an action, and in hand.
func (h *hand) step(t *testing.T, a *space.Action, c *chance) {
	t.Helper()
	page := h.some(c)
	switch k := c.below(12); {
	case k < 3 || page == 0:
		page = alloc(t, a)
		if _, ok := h.pages[page]; ok || page > h.count+1 || page == h.count+1 && len(h.free()) > 0 {
			t.Fatalf("Alloc: %d of %d pages, %v free", page, h.count, h.free())
		}
		h.count = max(h.count, page)
		h.pages[page] = padded("")
	case k < 5:
		free(t, a, page)
		delete(h.pages, page)
	case k < 6:
		root, n := c.below(16), c.below(1<<20)
		setRoot(t, a, root, n)
		h.roots[root] = n
	default:
		at := c.below(513)
		s := c.bytes(c.below(513 - at))
		if c.below(2) == 0 {
			s = s[:min(len(s), 5)]
		}
		write(t, a, page, at, s)
		old := h.pages[page]
		h.pages[page] = old[:at] + s + old[at+len(s):]
	}
	if got, e := a.Read(page); got != h.pages[page] || (e == api.OK) != (got != "") {
		t.Fatalf("Read(%d): %.20q %d, not %.20q", page, got, e, h.pages[page])
	}
}

// told is a space as it was behind a call, when there were so many raw writes.
type told struct {
	writes int
	hand   hand
}

// work does actions and checkpoints on a disk, and tells how its space was behind each call that makes raw writes.
func work(t *testing.T, d *disk.Disk, h hand, actions int, c *chance) []told {
	t.Helper()
	l := []told{{d.Writes(), h.clone()}}
	tell := func() { l = append(l, told{d.Writes(), h.clone()}) }
	s := open(t, d, 4)
	tell()
	for range actions {
		switch c.below(12) {
		case 0:
			checkpoint(t, s)
			tell()
			continue
		case 1:
			s = open(t, d, 4+c.below(9))
			tell()
			continue
		}
		a := begin(t, s)
		next := h.clone()
		for range c.below(12) {
			next.step(t, a, c)
			tell() // reading lets pages go, too
		}
		if c.below(4) == 0 {
			abort(t, a)
		} else {
			commit(t, a)
			h = next
		}
		tell()
		if !h.same(t, s) {
			t.Fatal("the space is not as in hand")
		}
		tell()
	}
	return l
}

// check tells where a disk that is cut at some number of raw writes does not open as it may then.
func check(t *testing.T, what string, d *disk.Disk, l []told, n, frames int) {
	t.Helper()
	i := 0
	for i+1 < len(l) && l[i+1].writes <= n {
		i++
	}
	s := open(t, cut(t, d, n), frames)
	if l[i].hand.same(t, s) {
		return
	}
	// Between two calls' ends the cut is within the second one.
	if n > l[i].writes && i+1 < len(l) && l[i+1].hand.same(t, s) {
		return
	}
	t.Errorf("%s: cut at %d is neither as it was at %d nor as behind the next call", what, n, l[i].writes)
}

// Sp3, Sp4: behind any number of raw writes the space is as behind the last call, or, within a call, as ahead of it or behind it.
func TestEachCut(t *testing.T) {
	for seed := range 4 {
		c := chance(seed)
		d := disk.New()
		l := work(t, d, hand{pages: map[int]string{}}, 60, &c)
		for n := range d.Writes() + 1 {
			check(t, "seed "+strconv.Itoa(seed), d, l, n, 4+n%20)
		}
	}
}

// Sp3: a space that was cut goes on, and is cut again, also within Open.
func TestCutAgain(t *testing.T) {
	c := chance(77)
	d := disk.New()
	l := work(t, d, hand{pages: map[int]string{}}, 25, &c)
	i := 0
	for n := 0; n <= d.Writes(); n++ {
		for i+1 < len(l) && l[i+1].writes <= n {
			i++
		}
		if l[i].writes != n || n%5 != 0 {
			continue
		}
		again := cut(t, d, n)
		more := work(t, again, l[i].hand, 4, &c)
		for m := n; m <= again.Writes(); m++ {
			check(t, "cut at "+strconv.Itoa(n), again, more, m, 4)
		}
	}
}

// Sp4: a space that is opened again twice is as if once; Open changes nothing that another one could tell.
func TestOpenTwice(t *testing.T) {
	c := chance(5)
	d := disk.New()
	l := work(t, d, hand{pages: map[int]string{}}, 40, &c)
	h := l[len(l)-1].hand
	for i := range 10 {
		s := open(t, d, 4+i)
		if !h.same(t, s) {
			t.Fatalf("opened %d times, it is another", i)
		}
		if i%3 == 2 {
			checkpoint(t, s)
		}
	}
}

// Sp3: Commit goes on when the log's file has no room left, and a cut there is as elsewhere.
func TestLogFull(t *testing.T) {
	d := disk.New()
	s := open(t, d, 4)
	c := chance(8)
	h := hand{pages: map[int]string{}}
	a := begin(t, s)
	for range 300 {
		h.pages[alloc(t, a)] = padded("")
		h.count++
	}
	commit(t, a)
	behind := 0 // at the end of a Commit that found no room
	for i := range 60 {
		size, ahead := d.Size(0), told{d.Writes(), h.clone()}
		a := begin(t, s)
		for page := 1; page <= 300; page++ {
			h.pages[page] = c.bytes(512)
			write(t, a, page, 0, h.pages[page])
		}
		h.roots[3] = i
		setRoot(t, a, 3, i)
		commit(t, a)
		if d.Size(0) > 1<<22 {
			t.Fatalf("the log has %d bytes", d.Size(0))
		}
		if d.Size(0) > size {
			continue
		}
		behind++
		l := []told{ahead, {d.Writes(), h.clone()}}
		for n := ahead.writes; n <= d.Writes(); n++ {
			if n < ahead.writes+12 || n%20 == 0 {
				check(t, "no room", d, l, n, 16)
			}
		}
		check(t, "no room", d, l, d.Writes(), 4)
		break
	}
	if behind == 0 || !h.same(t, s) || !h.same(t, open(t, d, 4)) {
		t.Errorf("%d times no room; the space is another", behind)
	}
}

// Sp3: neither of a disk's space and its cut's knows of the other.
func TestCutsAreApart(t *testing.T) {
	d := disk.New()
	s := open(t, d, 4)
	a := begin(t, s)
	write(t, a, alloc(t, a), 0, "both")
	commit(t, a)
	o := open(t, cut(t, d, d.Writes()), 4)
	a, b := begin(t, s), begin(t, o)
	write(t, a, 1, 4, " one")
	write(t, b, 1, 4, " two")
	alloc(t, b)
	commit(t, a)
	commit(t, b)
	pagesAre(t, "the disk", s, 1)
	pagesAre(t, "its cut", o, 2)
	reads(t, "the disk", begin(t, s), 1, "both one")
	reads(t, "its cut", begin(t, o), 1, "both two")
}
