package space_test

import (
	"math"
	"strconv"
	"strings"
	"testing"

	"vestibule/api"
	"vestibule/disk"
	"vestibule/space"
)

// Sp2: pages are numbered from 1 on, one above how many there are, as long as none is free; they are all noughts.
func TestAlloc(t *testing.T) {
	s := open(t, disk.New(), 4)
	for want := 1; want < 20; want++ {
		a := begin(t, s)
		if page := alloc(t, a); page != want {
			t.Fatalf("Alloc: %d, not %d", page, want)
		}
		reads(t, "new", a, want, "")
		unread(t, "new", a, want+1)
		if want%2 == 0 {
			abort(t, a)
			a = begin(t, s)
			unread(t, "aborted", a, want)
			if page := alloc(t, a); page != want {
				t.Fatalf("Alloc again: %d, not %d", page, want)
			}
		}
		write(t, a, want, 0, "filled")
		commit(t, a)
	}
}

// Sp2: a page that is free is given ahead of new ones, and is all noughts, whoever let it be free.
func TestAllocFree(t *testing.T) {
	s := open(t, disk.New(), 4)
	a := begin(t, s)
	for range 6 {
		write(t, a, alloc(t, a), 0, strings.Repeat("x", 512))
	}
	commit(t, a)
	a = begin(t, s)
	free(t, a, 3, 5)
	for _, other := range []int{5, 3} {
		page := alloc(t, a)
		if page+other != 8 {
			t.Errorf("Alloc: %d, 3 and 5 were free", page)
		}
		reads(t, "free in this action", a, page, "")
	}
	if page := alloc(t, a); page != 7 {
		t.Errorf("Alloc: %d, none was free", page)
	}
	write(t, a, 3, 10, "again")
	free(t, a, 2)
	commit(t, a)
	pagesAre(t, "committed", s, 7, 2)
	a = begin(t, s)
	reads(t, "committed", a, 3, strings.Repeat("\x00", 10)+"again")
	reads(t, "committed", a, 5, "")
	if page := alloc(t, a); page != 2 {
		t.Errorf("Alloc: %d, 2 was free", page)
	}
	reads(t, "free in an action ahead", a, 2, "")
	abort(t, a)
	a = begin(t, s)
	unread(t, "aborted", a, 2)
}

// Sp2: there are MaxPages - 1 pages at most; what is free is given also then.
func TestAllocFull(t *testing.T) {
	d := disk.New()
	s := open(t, d, 4)
	a := begin(t, s)
	for want := 1; want <= 4095; want++ {
		if page := alloc(t, a); page != want {
			t.Fatalf("Alloc: %d, not %d", page, want)
		}
	}
	full := func() {
		if page, e := a.Alloc(); page != 0 || e != api.ErrFull {
			t.Errorf("Alloc of a full space: %d %d", page, e)
		}
	}
	full()
	reads(t, "the last one", a, 4095, "")
	write(t, a, 4095, 511, "z")
	free(t, a, 4095, 1)
	if x, y := alloc(t, a), alloc(t, a); x+y != 4096 {
		t.Errorf("Alloc: %d %d, 1 and 4095 were free", x, y)
	}
	full()
	free(t, a, 64, 63, 4032)
	commit(t, a)
	pagesAre(t, "committed", s, 4095, 63, 64, 4032)
	s = open(t, d, 4)
	pagesAre(t, "opened again", s, 4095, 63, 64, 4032)
	a = begin(t, s)
	for range 3 {
		alloc(t, a)
	}
	full()
	commit(t, a)
	pagesAre(t, "committed", s, 4095)
}

// Sp2: bytes stand where they were written, over those that were there.
func TestWrite(t *testing.T) {
	s := open(t, disk.New(), 4)
	a := begin(t, s)
	alloc(t, a)
	alloc(t, a)
	for i, w := range []struct {
		at   int
		s    string
		want string
	}{
		{0, "abc", "abc"},
		{1, "X", "aXc"},
		{3, "", "aXc"},
		{0, "\x00", "\x00Xc"},
		{2, "dd", "\x00Xdd"},
		{512, "", "\x00Xdd"},
		{511, "e", "\x00Xdd" + strings.Repeat("\x00", 507) + "e"},
		{0, strings.Repeat("f", 512), strings.Repeat("f", 512)},
		{0, strings.Repeat("\x00", 511), strings.Repeat("\x00", 511) + "f"},
	} {
		what := "write " + strconv.Itoa(i)
		write(t, a, 1, w.at, w.s)
		reads(t, what, a, 1, w.want)
		reads(t, what, a, 2, "")
		commit(t, a)
		a = begin(t, s)
		reads(t, what+", committed", a, 1, w.want)
		reads(t, what+", committed", a, 2, "")
	}
}

// Sp2: what Write refuses, the page's number ahead of the place.
func TestWriteRefused(t *testing.T) {
	s := open(t, disk.New(), 4)
	a := begin(t, s)
	alloc(t, a)
	alloc(t, a)
	free(t, a, 2)
	write(t, a, 1, 0, "kept")
	for _, page := range append([]int{2, 3}, noPages...) {
		for _, at := range []int{-1, 0, 513} {
			if e := a.Write(page, at, "x"); e != api.ErrNone {
				t.Errorf("Write(%d, %d): %d", page, at, e)
			}
		}
	}
	for _, w := range []struct {
		at int
		s  string
	}{
		{-1, ""}, {-1, "xx"}, {513, ""}, {512, "x"}, {511, "xx"}, {0, strings.Repeat("x", 513)}, {1, strings.Repeat("x", 512)},
		{math.MinInt, "x"}, {math.MaxInt, "x"}, {math.MaxInt, ""}, {1 << 32, "x"}, {-1 << 32, "x"},
	} {
		if e := a.Write(1, w.at, w.s); e != api.ErrArg {
			t.Errorf("Write(1, %d, %d bytes): %d", w.at, len(w.s), e)
		}
	}
	reads(t, "refused", a, 1, "kept")
	commit(t, a)
	pagesAre(t, "refused", s, 2, 2)
}

// Sp2: a page that is free is none, till it is given again.
func TestFree(t *testing.T) {
	s := open(t, disk.New(), 4)
	a := begin(t, s)
	alloc(t, a)
	write(t, a, alloc(t, a), 0, "two")
	alloc(t, a)
	commit(t, a)
	a = begin(t, s)
	free(t, a, 2)
	for range 2 {
		unread(t, "free", a, 2)
		if e := a.Write(2, 0, "x"); e != api.ErrNone {
			t.Errorf("Write of a free page: %d", e)
		}
		for _, page := range append([]int{2, 4}, noPages...) {
			if e := a.Free(page); e != api.ErrNone {
				t.Errorf("Free(%d): %d", page, e)
			}
		}
		commit(t, a)
		pagesAre(t, "committed", s, 3, 2)
		a = begin(t, s)
	}
	abort(t, a)
	a = begin(t, s)
	free(t, a, 1, 3)
	abort(t, a)
	pagesAre(t, "aborted", s, 3, 2)
	a = begin(t, s)
	reads(t, "aborted", a, 1, "")
}

// Sp2: a root is the number that it was set to last, and each one is its own.
func TestRoot(t *testing.T) {
	d := disk.New()
	s := open(t, d, 4)
	a := begin(t, s)
	for k := range 16 {
		setRoot(t, a, k, 1000+k)
	}
	for i, n := range []int{0, 1, 255, 256, 65536, 1 << 24, 1<<31 - 1, 1 << 30} {
		setRoot(t, a, i, n)
		rootIs(t, "set", a, i, n)
		rootIs(t, "set", a, 15, 1015)
		commit(t, a)
		a = begin(t, s)
		rootIs(t, "committed", a, i, n)
		rootIs(t, "committed", a, i+1, 1001+i)
		rootIs(t, "opened again", begin(t, open(t, d, 4)), i, n)
	}
	setRoot(t, a, 0, 5)
	abort(t, a)
	a = begin(t, s)
	rootIs(t, "aborted", a, 0, 0)
	pagesAre(t, "roots alone", s, 0)
	abort(t, a)
	checkpoint(t, s)
	a = begin(t, open(t, d, 4))
	rootIs(t, "behind a checkpoint", a, 6, 1<<31-1)
	rootIs(t, "behind a checkpoint", a, 15, 1015)
}

// Sp2: what Root and SetRoot refuse.
func TestRootRefused(t *testing.T) {
	s := open(t, disk.New(), 4)
	a := begin(t, s)
	setRoot(t, a, 0, 7)
	setRoot(t, a, 15, 8)
	for _, k := range noRoots {
		if n, e := a.Root(k); n != 0 || e != api.ErrArg {
			t.Errorf("Root(%d): %d %d", k, n, e)
		}
		for _, n := range []int{-1, 0, 1} {
			if e := a.SetRoot(k, n); e != api.ErrArg {
				t.Errorf("SetRoot(%d, %d): %d", k, n, e)
			}
		}
	}
	for _, n := range []int{-1, 1 << 31, 1<<31 + 1, 1 << 32, 1<<32 + 1, math.MinInt, math.MaxInt} {
		if e := a.SetRoot(0, n); e != api.ErrArg {
			t.Errorf("SetRoot(0, %d): %d", n, e)
		}
	}
	rootIs(t, "refused", a, 0, 7)
	rootIs(t, "refused", a, 15, 8)
}

// calls are all calls of an action, each with what it answers besides an error as a text.
func calls(a *space.Action) map[string]func() (string, api.Errno) {
	number := func(n int, e api.Errno) (string, api.Errno) { return strconv.Itoa(n), e }
	return map[string]func() (string, api.Errno){
		"Read":           func() (string, api.Errno) { return a.Read(1) },
		"Read of none":   func() (string, api.Errno) { return a.Read(0) },
		"Write":          func() (string, api.Errno) { return "", a.Write(1, 0, "x") },
		"Write of none":  func() (string, api.Errno) { return "", a.Write(9, -1, "x") },
		"Alloc":          func() (string, api.Errno) { return number(a.Alloc()) },
		"Free":           func() (string, api.Errno) { return "", a.Free(1) },
		"Free of none":   func() (string, api.Errno) { return "", a.Free(-1) },
		"Root":           func() (string, api.Errno) { return number(a.Root(0)) },
		"Root of none":   func() (string, api.Errno) { return number(a.Root(16)) },
		"SetRoot":        func() (string, api.Errno) { return "", a.SetRoot(0, 5) },
		"SetRoot to -1":  func() (string, api.Errno) { return "", a.SetRoot(0, -1) },
		"SetRoot of one": func() (string, api.Errno) { return "", a.SetRoot(-1, 5) },
		"Commit":         func() (string, api.Errno) { return "", a.Commit() },
		"Abort":          func() (string, api.Errno) { return "", a.Abort() },
	}
}

// refuse tells where a call of an action answers anything but this error.
func refuse(t *testing.T, what string, a *space.Action, want api.Errno) {
	t.Helper()
	for name, call := range calls(a) {
		if s, e := call(); s != "" && s != "0" || e != want {
			t.Errorf("%s: %s: %q %d, not %d", what, name, s, e, want)
		}
	}
}

// Sp2: calls on an action that is over, also while another one goes on: of that they change nothing.
func TestOver(t *testing.T) {
	d := disk.New()
	s := open(t, d, 4)
	a := begin(t, s)
	write(t, a, alloc(t, a), 0, "one")
	setRoot(t, a, 0, 1)
	commit(t, a)
	b := begin(t, s)
	write(t, b, 1, 0, "two")
	abort(t, b)
	before := d.Writes()
	for _, goesOn := range []bool{false, true} {
		var c *space.Action
		if goesOn {
			c = begin(t, s)
			write(t, c, 1, 3, "three")
		}
		refuse(t, "committed", a, api.ErrOver)
		refuse(t, "aborted", b, api.ErrOver)
		if goesOn {
			reads(t, "the other one", c, 1, "onethree")
			rootIs(t, "the other one", c, 0, 1)
		}
		pagesAre(t, "refused", s, 1)
	}
	if d.Writes() != before {
		t.Errorf("%d raw writes by what was refused", d.Writes()-before)
	}
}

// R1: calls on no action, and on one that Begin did not give.
func TestNoAction(t *testing.T) {
	s := open(t, disk.New(), 4)
	a := begin(t, s)
	write(t, a, alloc(t, a), 0, "one")
	copied := *a
	for i, x := range []*space.Action{nil, {}, &copied} {
		refuse(t, "action "+strconv.Itoa(i), x, api.ErrArg)
	}
	reads(t, "the action", a, 1, "one")
	rootIs(t, "the action", a, 0, 0)
	commit(t, a)
	pagesAre(t, "the action", s, 1)
	refuse(t, "a copy of one that is over", &copied, api.ErrArg)
}

// Sp2: nothing of an action that was aborted is, whichever pages it asked for; the next one is as if there had been none.
func TestAbort(t *testing.T) {
	d := disk.New()
	s := open(t, d, 4)
	a := begin(t, s)
	for _, w := range []string{"one", "two", "three"} {
		write(t, a, alloc(t, a), 0, w)
	}
	commit(t, a)
	before := d.Writes()
	for range 3 {
		a = begin(t, s)
		for page := 1; page <= 3; page++ {
			write(t, a, page, 100, "aborted")
		}
		free(t, a, 2)
		for range 20 {
			write(t, a, alloc(t, a), 0, "aborted")
		}
		setRoot(t, a, 3, 3)
		abort(t, a)
	}
	if d.Writes() != before {
		t.Errorf("%d raw writes", d.Writes()-before)
	}
	for _, x := range []*space.Space{s, open(t, d, 4)} {
		pagesAre(t, "aborted", x, 3)
		a = begin(t, x)
		for i, w := range []string{"one", "two", "three"} {
			reads(t, "aborted", a, i+1, w)
		}
		rootIs(t, "aborted", a, 3, 0)
		if page := alloc(t, a); page != 4 {
			t.Errorf("Alloc: %d", page)
		}
		reads(t, "aborted", a, 4, "")
		abort(t, a)
	}
}

// Sp2: what is committed is there for whoever opens the disk anew, with however many frames.
func TestCommit(t *testing.T) {
	d := disk.New()
	s := open(t, d, 4)
	h := hand{pages: map[int]string{}}
	for i := range 30 {
		a := begin(t, s)
		page := alloc(t, a)
		h.count = page
		h.pages[page] = padded("number " + strconv.Itoa(i))
		write(t, a, page, 0, "number "+strconv.Itoa(i))
		early := 1 + i/2
		h.pages[early] = h.pages[early][:400] + "late" + h.pages[early][404:]
		write(t, a, early, 400, "late")
		h.roots[i%16] = page
		setRoot(t, a, i%16, page)
		commit(t, a)
		for _, frames := range []int{4, 5, 1024} {
			if !h.same(t, open(t, d, frames)) {
				t.Errorf("committed %d: with %d frames it is another", i, frames)
			}
		}
	}
}

// Sp2: 1000 pages may be changed by one action, all of their bytes, new ones and others; however few frames there are.
func TestManyPages(t *testing.T) {
	d := disk.New()
	s := open(t, d, 4)
	c := chance(11)
	var want []string
	for round := range 3 {
		a := begin(t, s)
		for i := range 1000 {
			if round == 0 {
				alloc(t, a)
				want = append(want, "")
			}
			want[i] = c.bytes(512)
			write(t, a, i+1, 0, want[i])
		}
		commit(t, a)
		for _, x := range []*space.Space{s, open(t, d, 4), open(t, d, 1024)} {
			a = begin(t, x)
			for i, w := range want {
				if got, e := a.Read(i + 1); got != w || e != api.OK {
					t.Fatalf("round %d: page %d: %.20q %d", round, i+1, got, e)
				}
			}
			abort(t, a)
		}
	}
}

// Sp2: more pages than a record holds are not committed: nothing of the action is, and it is over.
func TestTooManyPages(t *testing.T) {
	d := disk.New()
	s := open(t, d, 4)
	a := begin(t, s)
	write(t, a, alloc(t, a), 0, "one")
	setRoot(t, a, 2, 22)
	commit(t, a)
	before := d.Writes()
	c := chance(12)
	a = begin(t, s)
	write(t, a, 1, 0, c.bytes(512))
	setRoot(t, a, 2, 23)
	for range 4094 {
		write(t, a, alloc(t, a), 0, c.bytes(512))
	}
	if e := a.Commit(); e != api.ErrFull {
		t.Fatalf("Commit of 4095 pages: %d", e)
	}
	refuse(t, "too many pages", a, api.ErrOver)
	if d.Writes() != before {
		t.Errorf("%d raw writes", d.Writes()-before)
	}
	for _, x := range []*space.Space{s, open(t, d, 4)} {
		pagesAre(t, "too many pages", x, 1)
		a = begin(t, x)
		reads(t, "too many pages", a, 1, "one")
		rootIs(t, "too many pages", a, 2, 22)
		abort(t, a)
	}
	a = begin(t, s)
	write(t, a, 1, 3, " more")
	commit(t, a)
	a = begin(t, s)
	reads(t, "gone on", a, 1, "one more")
}

// The chapter's example.
func TestExample(t *testing.T) {
	d := disk.New()
	a := begin(t, open(t, d, 4))
	if page := alloc(t, a); page != 1 {
		t.Errorf("Alloc: %d", page)
	}
	write(t, a, 1, 0, "a")
	before := d.Writes()
	commit(t, a)
	for n := before; n <= d.Writes(); n++ {
		s := open(t, cut(t, d, n), 4)
		if count, _ := s.Pages(); count == 0 && n < d.Writes() {
			continue
		}
		pagesAre(t, "cut", s, 1)
		reads(t, "cut", begin(t, s), 1, "a")
	}
}
