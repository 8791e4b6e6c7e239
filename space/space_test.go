package space_test

import (
	"math"
	"slices"
	"strings"
	"testing"

	"vestibule/api"
	"vestibule/disk"
	"vestibule/log"
	"vestibule/space"
)

// noPages are numbers of no page, however many there are.
var noPages = []int{-1, 0, 4096, 4097, 65536, 65537, math.MinInt, math.MaxInt, -1 << 32, 1<<32 + 1}

// noRoots are numbers of no root.
var noRoots = []int{-1, 16, 17, math.MinInt, math.MaxInt, -1 << 32, 1 << 32}

func open(t *testing.T, d *disk.Disk, frames int) *space.Space {
	t.Helper()
	s, e := space.Open(d, frames)
	if e != api.OK || s == nil {
		t.Fatalf("Open with %d frames: %v %d", frames, s, e)
	}
	return s
}

func begin(t *testing.T, s *space.Space) *space.Action {
	t.Helper()
	a, e := s.Begin()
	if e != api.OK || a == nil {
		t.Fatalf("Begin: %v %d", a, e)
	}
	return a
}

func commit(t *testing.T, a *space.Action) {
	t.Helper()
	if e := a.Commit(); e != api.OK {
		t.Fatalf("Commit: %d", e)
	}
}

func abort(t *testing.T, a *space.Action) {
	t.Helper()
	if e := a.Abort(); e != api.OK {
		t.Fatalf("Abort: %d", e)
	}
}

func checkpoint(t *testing.T, s *space.Space) {
	t.Helper()
	if e := s.Checkpoint(); e != api.OK {
		t.Fatalf("Checkpoint: %d", e)
	}
}

func alloc(t *testing.T, a *space.Action) int {
	t.Helper()
	page, e := a.Alloc()
	if e != api.OK {
		t.Fatalf("Alloc: %d %d", page, e)
	}
	return page
}

func free(t *testing.T, a *space.Action, pages ...int) {
	t.Helper()
	for _, page := range pages {
		if e := a.Free(page); e != api.OK {
			t.Fatalf("Free(%d): %d", page, e)
		}
	}
}

func write(t *testing.T, a *space.Action, page, at int, s string) {
	t.Helper()
	if e := a.Write(page, at, s); e != api.OK {
		t.Fatalf("Write(%d, %d, %d bytes): %d", page, at, len(s), e)
	}
}

func setRoot(t *testing.T, a *space.Action, k, n int) {
	t.Helper()
	if e := a.SetRoot(k, n); e != api.OK {
		t.Fatalf("SetRoot(%d, %d): %d", k, n, e)
	}
}

// padded is a page that begins with these bytes; the others are noughts.
func padded(s string) string { return s + strings.Repeat("\x00", 512-len(s)) }

// reads tells where a page does not read as what these bytes begin.
func reads(t *testing.T, what string, a *space.Action, page int, want string) {
	t.Helper()
	if s, e := a.Read(page); s != padded(want) || e != api.OK {
		t.Errorf("%s: Read(%d): %d bytes %.40q %d, not %.40q", what, page, len(s), s, e, want)
	}
}

// unread tells where a page can be read.
func unread(t *testing.T, what string, a *space.Action, pages ...int) {
	t.Helper()
	for _, page := range pages {
		if s, e := a.Read(page); s != "" || e != api.ErrNone {
			t.Errorf("%s: Read(%d): %.40q %d", what, page, s, e)
		}
	}
}

// pagesAre tells where there are not just so many pages, and these free ones.
func pagesAre(t *testing.T, what string, s *space.Space, count int, free ...int) {
	t.Helper()
	if n, l := s.Pages(); n != count || !slices.Equal(l, free) {
		t.Errorf("%s: Pages %d %v, not %d %v", what, n, l, count, free)
	}
}

// rootIs tells where a root is not that number.
func rootIs(t *testing.T, what string, a *space.Action, k, want int) {
	t.Helper()
	if n, e := a.Root(k); n != want || e != api.OK {
		t.Errorf("%s: Root(%d): %d %d, not %d", what, k, n, e, want)
	}
}

// onDisk is what a disk's file has of a page, and noughts behind.
func onDisk(t *testing.T, d *disk.Disk, page int) string {
	t.Helper()
	s, e := d.Read(1, page*512, 512)
	if e != api.OK {
		t.Fatalf("file 1 has %d bytes, page %d is not there", d.Size(1), page)
	}
	return s
}

// records is how many records a disk's log has.
func records(t *testing.T, d *disk.Disk) int {
	t.Helper()
	l, r, e := log.Open(d)
	if e != api.OK || l.Len() != len(r) {
		t.Fatalf("the log: %d records, %d", len(r), e)
	}
	return len(r)
}

// Sp1: an empty disk has no pages, and roots 0; Open of it writes nothing.
func TestOpenEmpty(t *testing.T) {
	for _, frames := range []int{4, 5, 16, 1023, 1024} {
		d := disk.New()
		s := open(t, d, frames)
		pagesAre(t, "empty", s, 0)
		if n := s.Pinned(); n != 0 {
			t.Errorf("Pinned: %d", n)
		}
		a := begin(t, s)
		for k := range 16 {
			rootIs(t, "empty", a, k, 0)
		}
		unread(t, "empty", a, 0, 1, 2, 4095)
		abort(t, a)
		if d.Writes() != 0 {
			t.Errorf("%d raw writes", d.Writes())
		}
	}
}

// Sp1: what Open refuses.
func TestOpenRefused(t *testing.T) {
	d := disk.New()
	copied := *d
	for _, x := range []*disk.Disk{nil, {}, &copied} {
		for _, frames := range []int{0, 4, 1024, 1025} {
			if s, e := space.Open(x, frames); s != nil || e != api.ErrArg {
				t.Errorf("no disk, %d frames: %v %d", frames, s, e)
			}
		}
	}
	for _, frames := range []int{-1, 0, 1, 3, 1025, 1026, 4096, math.MinInt, math.MaxInt, 1<<32 + 4} {
		if s, e := space.Open(d, frames); s != nil || e != api.ErrArg {
			t.Errorf("%d frames: %v %d", frames, s, e)
		}
	}
	if d.Writes() != 0 {
		t.Errorf("%d raw writes", d.Writes())
	}
}

// Sp1: no action begins and nothing is written to the disk while one goes on; and both are so when it is over.
func TestBusy(t *testing.T) {
	d := disk.New()
	s := open(t, d, 4)
	for i, end := range []func(*space.Action) api.Errno{(*space.Action).Abort, (*space.Action).Commit, (*space.Action).Abort} {
		a := begin(t, s)
		alloc(t, a)
		before := d.Writes()
		if b, e := s.Begin(); b != nil || e != api.ErrBusy {
			t.Errorf("Begin: %v %d", b, e)
		}
		if e := s.Checkpoint(); e != api.ErrBusy {
			t.Errorf("Checkpoint: %d", e)
		}
		if d.Writes() != before {
			t.Errorf("%d raw writes by what was refused", d.Writes()-before)
		}
		reads(t, "goes on", a, i/2+1, "")
		if e := end(a); e != api.OK {
			t.Errorf("end %d: %d", i, e)
		}
		checkpoint(t, s)
	}
	pagesAre(t, "one was committed", s, 1)
}

// Sp1: another space knows nothing of an action that goes on.
func TestOwnActions(t *testing.T) {
	s, r := open(t, disk.New(), 4), open(t, disk.New(), 4)
	a, b := begin(t, s), begin(t, r)
	write(t, a, alloc(t, a), 0, "a")
	alloc(t, b)
	write(t, b, alloc(t, b), 0, "b")
	commit(t, a)
	pagesAre(t, "committed", s, 1)
	pagesAre(t, "goes on", r, 0)
	abort(t, b)
	pagesAre(t, "aborted", r, 0)
}

// Sp1: behind Checkpoint the disk has all pages, and the log nothing.
func TestCheckpoint(t *testing.T) {
	d := disk.New()
	s := open(t, d, 4)
	checkpoint(t, s)
	pagesAre(t, "of an empty one", open(t, d, 4), 0)
	a := begin(t, s)
	for page := 1; page <= 12; page++ {
		write(t, a, alloc(t, a), 500, "page "+string(rune('a'+page)))
	}
	if last := alloc(t, a); last != 13 { // nothing is written into it
		t.Errorf("Alloc: %d", last)
	}
	free(t, a, 5, 7)
	setRoot(t, a, 15, 77)
	commit(t, a)
	if n := records(t, d); n != 1 {
		t.Errorf("%d records behind Commit", n)
	}
	for range 2 {
		checkpoint(t, s)
		if n := records(t, d); n != 0 || d.Size(0) != 0 {
			t.Errorf("%d records behind Checkpoint, %d bytes", n, d.Size(0))
		}
		a = begin(t, s)
		for page := 1; page <= 13; page++ {
			if want, e := a.Read(page); e == api.OK && onDisk(t, d, page) != want {
				t.Errorf("page %d is not on the disk", page)
			}
		}
		abort(t, a)
		again := open(t, d, 4)
		pagesAre(t, "opened again", again, 13, 5, 7)
		b := begin(t, again)
		reads(t, "opened again", b, 4, strings.Repeat("\x00", 500)+"page e")
		rootIs(t, "opened again", b, 15, 77)
	}
}

// Sp1: Pages tells what the last finished action left, whatever goes on.
func TestPages(t *testing.T) {
	s := open(t, disk.New(), 4)
	a := begin(t, s)
	for range 5 {
		alloc(t, a)
	}
	pagesAre(t, "goes on", s, 0)
	commit(t, a)
	pagesAre(t, "committed", s, 5)
	a = begin(t, s)
	free(t, a, 4, 2)
	pagesAre(t, "goes on", s, 5)
	commit(t, a)
	pagesAre(t, "committed", s, 5, 2, 4)
	a = begin(t, s)
	alloc(t, a)
	free(t, a, 1)
	abort(t, a)
	pagesAre(t, "aborted", s, 5, 2, 4)
	_, l := s.Pages()
	l[0] = 99
	pagesAre(t, "its answer changed", s, 5, 2, 4)
}

// Sp1: no page is pinned when no call goes on, whatever the calls were.
func TestPinned(t *testing.T) {
	d := disk.New()
	s := open(t, d, 4)
	unpinned := func(what string) {
		if n := s.Pinned(); n != 0 {
			t.Errorf("%s: %d pinned", what, n)
		}
	}
	for range 3 {
		a := begin(t, s)
		unpinned("Begin")
		for page := 1; page <= 9; page++ {
			if _, e := a.Read(page); e != api.OK {
				alloc(t, a)
			}
			unpinned("Read, Alloc")
			write(t, a, page, 3, "x")
			a.Write(page, 512, "x")
			unpinned("Write")
		}
		free(t, a, 3)
		unpinned("Free")
		commit(t, a)
		unpinned("Commit")
		a = begin(t, s)
		write(t, a, 1, 0, "y")
		abort(t, a)
		unpinned("Abort")
		s = open(t, d, 4)
		unpinned("Open")
	}
	checkpoint(t, s)
	unpinned("Checkpoint")
}

// R1: calls on no space, and on one that Open did not give.
func TestNoSpace(t *testing.T) {
	copied := *open(t, disk.New(), 4)
	for i, s := range []*space.Space{nil, {}, &copied} {
		if a, e := s.Begin(); a != nil || e != api.ErrArg {
			t.Errorf("space %d: Begin: %v %d", i, a, e)
		}
		if e := s.Checkpoint(); e != api.ErrArg {
			t.Errorf("space %d: Checkpoint: %d", i, e)
		}
		if n, l := s.Pages(); n != 0 || l != nil {
			t.Errorf("space %d: Pages: %d %v", i, n, l)
		}
		if n := s.Pinned(); n != 0 {
			t.Errorf("space %d: Pinned: %d", i, n)
		}
	}
}

// R1: whatever stands on the disk, calls end, and none panics.
func TestStrangeDisk(t *testing.T) {
	c := chance(3)
	for range 400 {
		d := disk.New()
		s := open(t, d, 4)
		a := begin(t, s)
		for range 1 + c.below(8) {
			write(t, a, alloc(t, a), c.below(500), "strange")
		}
		commit(t, a)
		if c.below(2) == 0 {
			checkpoint(t, s)
		}
		for range 1 + c.below(4) {
			file := c.below(4)
			if c.below(4) == 0 {
				d.Trim(file, c.below(d.Size(file)+1))
			} else {
				d.Write(file, c.below(d.Size(file)+1), c.bytes(1+c.below(700)))
			}
		}
		if c.below(4) == 0 {
			if l, _, e := log.Open(d); e == api.OK {
				l.Append(c.bytes(1 + c.below(700)))
			}
		}
		useAll(d)
	}
}

// useAll does calls of each kind on a disk's space, of which nothing is asked.
func useAll(d *disk.Disk) {
	s, _ := space.Open(d, 4)
	s.Pages()
	a, _ := s.Begin()
	for page := range 10 {
		a.Read(page)
		a.Write(page, 0, "x")
	}
	for range 3 {
		page, _ := a.Alloc()
		a.Write(page, 0, "x")
		a.Free(page - 1)
	}
	for k := range 16 {
		n, _ := a.Root(k)
		a.SetRoot(k, n+1)
	}
	a.Commit()
	s.Checkpoint()
	s.Pages()
	s.Pinned()
}
