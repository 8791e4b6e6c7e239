package pool_test

import (
	"slices"
	"strconv"
	"testing"

	"vestibule/api"
	"vestibule/disk"
	"vestibule/pool"
)

// Po1: a page that goes is written ahead of that, if it was changed, and only then; once, and no other.
func TestLetGo(t *testing.T) {
	d := disk.New()
	p := open(t, d, 2)
	pin(t, p, 1)
	write(t, p, 1, 0, "pinned")
	change(t, p, 2, 0, "a")
	change(t, p, 2, 511, "b")
	change(t, p, 2, 5, "")
	writes(t, "in their frames", d, 0)
	ask(t, p, 3)
	writes(t, "a changed one went", d, 1)
	if s := onDisk(t, d, 2); s[:1] != "a" || s[511:] != "b" {
		t.Errorf("a changed one went: %q", s)
	}
	if s := onDisk(t, d, 1); s != padded("") {
		t.Errorf("one that is pinned: %q", s)
	}
	ask(t, p, 2)
	writes(t, "one that was only read went", d, 1)
	pin(t, p, 2)
	write(t, p, 2, 1, "")
	unpin(t, p, 2)
	ask(t, p, 4)
	writes(t, "one went into which nothing was written", d, 1)
	change(t, p, 4, 0, "c")
	flush(t, p)
	writes(t, "flushed", d, 3)
	ask(t, p, 5)
	writes(t, "one went that was flushed", d, 3)
	for file := range 4 {
		if n := d.Size(file); file != 1 && n != 0 {
			t.Errorf("file %d has %d bytes", file, n)
		}
	}
}

// Po1: Flush writes all pages that were changed, pinned or not, each once; they stay where they are.
func TestFlush(t *testing.T) {
	d := disk.New()
	p := open(t, d, 4)
	flush(t, p)
	writes(t, "nothing was changed", d, 0)
	change(t, p, 9, 0, "nine")
	ask(t, p, 3)
	pin(t, p, 5, 5)
	write(t, p, 5, 100, "five")
	write(t, p, 5, 200, "five")
	flush(t, p)
	writes(t, "two were changed", d, 2)
	held(t, "flushed", p, 3, 5, 9)
	if n := p.Pins(5); n != 2 {
		t.Errorf("Pins(5): %d", n)
	}
	if s := onDisk(t, d, 9); s != padded("nine") {
		t.Errorf("page 9: %q", s)
	}
	if s := onDisk(t, d, 5); s[100:104] != "five" || s[200:204] != "five" {
		t.Errorf("page 5: %q", s)
	}
	flush(t, p)
	writes(t, "nothing was changed since", d, 2)
	write(t, p, 5, 0, "again")
	flush(t, p)
	writes(t, "one was changed since", d, 3)
	if s := onDisk(t, d, 5); s[:5] != "again" || s[100:104] != "five" {
		t.Errorf("page 5: %q", s)
	}
	held(t, "another pool of the disk", open(t, d, 1))
}

// Po2: what was written last is on the disk behind Flush, also where its bytes are as they were, and another pool wrote there.
func TestWrittenLast(t *testing.T) {
	d := disk.New()
	p, q := open(t, d, 1), open(t, d, 1)
	change(t, p, 1, 0, "p")
	flush(t, p)
	change(t, q, 1, 0, "q")
	flush(t, q)
	change(t, p, 1, 0, "p")
	flush(t, p)
	if s := onDisk(t, d, 1); s != padded("p") {
		t.Errorf("page 1: %q", s)
	}
}

// Ways: a frame that was asked for since the hand passed gets another turn; others go, one behind the other.
func TestAnotherTurn(t *testing.T) {
	p := open(t, disk.New(), 4)
	ask(t, p, 1, 2, 3, 4)
	ask(t, p, 5) // all had a turn, and lost it: the hand took the first one, which is 5's now
	held(t, "one went", p, 2, 3, 4, 5)
	ask(t, p, 2, 4)
	ask(t, p, 6)
	held(t, "2 was asked for, 3 was not", p, 2, 4, 5, 6)
	ask(t, p, 7) // 4 and 5 were asked for, but 2 has lost its turn
	held(t, "2 had its turn", p, 4, 5, 6, 7)
}

// R2: a Pin that is refused lets who goes next be, and who has another turn.
func TestRefusedTakesNoTurn(t *testing.T) {
	next := func(refused, again int) []int {
		p := open(t, disk.New(), 5)
		ask(t, p, 1, 2, 3, 4, 5, 6, 3)
		all := p.Held()
		pin(t, p, all...)
		for range refused {
			if e := p.Pin(9); e != api.ErrPins {
				t.Errorf("Pin(9): %d", e)
			}
		}
		unpin(t, p, all...)
		ask(t, p, all[again])
		var l []int
		for page := 10; page < 20; page++ {
			ask(t, p, page)
			l = append(l, p.Held()...)
		}
		return l
	}
	for again := range 5 {
		want := next(0, again)
		for refused := 1; refused < 7; refused++ {
			if l := next(refused, again); !slices.Equal(l, want) {
				t.Errorf("%d refused: %v, not %v", refused, l, want)
			}
		}
	}
}

// chance is numbers of all sorts, the same ones in each run.
type chance uint32

func (c *chance) below(n int) int {
	*c = *c*1664525 + 1013904223
	return int(*c>>8) % n
}

// inHand is what a pool is to tell: pages as they were last written, how often each is pinned, and which were changed.
type inHand struct {
	frames  int
	pages   [12]string
	pins    [12]int
	changed [12]bool
}

// pinned is how many pages are pinned.
func (h *inHand) pinned() int {
	n := 0
	for _, k := range h.pins {
		if k > 0 {
			n++
		}
	}
	return n
}

// errors are what Pin and calls on a pinned page answer.
func (h *inHand) errors(page int, isHeld bool) (onPin, onPinned api.Errno) {
	if h.pins[page] == 0 {
		onPinned = api.ErrNone
	}
	if !isHeld && h.pinned() == h.frames {
		onPin = api.ErrPins
	}
	return onPin, onPinned
}

// went takes in which pages went from frames: those are on the disk as they were last written. It tells how many raw writes that took.
func (h *inHand) went(t *testing.T, d *disk.Disk, p *pool.Pool, before []int) int {
	t.Helper()
	after, raw := p.Held(), 0
	for _, page := range before {
		if slices.Contains(after, page) {
			continue
		}
		if h.pins[page] > 0 {
			t.Fatalf("page %d went, and is pinned", page)
		}
		if len(before) < h.frames {
			t.Fatalf("page %d went, and frames are free", page)
		}
		if h.changed[page] {
			raw++
		}
		h.changed[page] = false
		if onDisk(t, d, page) != h.pages[page] {
			t.Fatalf("page %d went, but the disk has it not", page)
		}
	}
	return raw
}

// check holds all that a pool tells against what it is to tell.
func (h *inHand) check(t *testing.T, p *pool.Pool) {
	t.Helper()
	l := p.Held()
	if len(l) > h.frames || !slices.IsSorted(l) || len(slices.Compact(slices.Clone(l))) != len(l) {
		t.Fatalf("%d frames: Held %v", h.frames, l)
	}
	for page, n := range h.pins {
		if got := p.Pins(page); got != n {
			t.Fatalf("Pins(%d): %d, not %d", page, got, n)
		}
		if n > 0 {
			reads(t, "pinned", p, page, h.pages[page])
		}
		if n > 0 && !slices.Contains(l, page) {
			t.Fatalf("page %d is pinned, Held %v", page, l)
		}
	}
}

// step does one call on a pool, and on what is in hand.
func (h *inHand) step(t *testing.T, d *disk.Disk, p *pool.Pool, c *chance, i int) {
	t.Helper()
	page := c.below(len(h.pages))
	before := p.Held()
	onPin, onPinned := h.errors(page, slices.Contains(before, page))
	raw, want, e := d.Writes(), api.OK, api.OK
	switch k := c.below(20); {
	case k < 8:
		e, want = p.Pin(page), onPin
		raw += h.went(t, d, p, before)
		if e == api.OK {
			h.pins[page]++
		}
	case k < 14:
		e, want = p.Unpin(page), onPinned
		if e == api.OK {
			h.pins[page]--
		}
	case k < 19:
		s := strconv.Itoa(i) + "!"
		at := c.below(512 - len(s))
		e, want = p.Write(page, at, s), onPinned
		if e == api.OK {
			h.pages[page] = h.pages[page][:at] + s + h.pages[page][at+len(s):]
			h.changed[page] = true
		}
	default:
		flush(t, p)
		for page, b := range h.changed {
			if b {
				raw++
			}
			if onDisk(t, d, page) != h.pages[page] {
				t.Fatalf("page %d: flushed, but the disk has it not", page)
			}
		}
		h.changed = [12]bool{}
	}
	if e != want {
		t.Fatalf("step %d, page %d: %d, not %d", i, page, e, want)
	}
	writes(t, "step", d, raw)
	h.check(t, p)
}

// Po1, Po2: whatever is called, a pool tells what one in hand does.
func TestAsInHand(t *testing.T) {
	for frames := 1; frames <= 13; frames++ {
		c := chance(frames)
		d := disk.New()
		p := open(t, d, frames)
		h := &inHand{frames: frames}
		for page := range h.pages {
			h.pages[page] = padded("")
		}
		for i := range 1500 {
			h.step(t, d, p, &c, i)
			if t.Failed() {
				t.Fatalf("%d frames, step %d", frames, i)
			}
		}
	}
}

// R4: the same calls answer the same, and make the same raw writes in the same order.
func TestSameCallsSameAnswers(t *testing.T) {
	work := func() (*disk.Disk, []int) {
		d := disk.New()
		p := open(t, d, 40)
		c := chance(5)
		var told []int
		for i := range 600 {
			change(t, p, c.below(90), c.below(500), "w"+strconv.Itoa(i))
			told = append(told, p.Held()...)
			if i%100 == 99 {
				flush(t, p)
			}
		}
		return d, told
	}
	a, heldA := work()
	for range 3 {
		b, heldB := work()
		if !slices.Equal(heldA, heldB) || a.Writes() != b.Writes() {
			t.Fatalf("%d and %d raw writes, or others are held", a.Writes(), b.Writes())
		}
		for n := range a.Writes() + 1 {
			x, _ := a.Cut(n)
			y, _ := b.Cut(n)
			if s, _ := x.Read(1, 0, x.Size(1)); !sameFile(y, s) {
				t.Fatalf("behind %d raw writes the disks are not the same", n)
			}
		}
	}
}

// sameFile tells whether a disk's file 1 has just these bytes.
func sameFile(d *disk.Disk, s string) bool {
	r, _ := d.Read(1, 0, d.Size(1))
	return r == s
}

// Po2: what was written is read through whichever frames it went, by another pool of the disk too.
func TestThroughFrames(t *testing.T) {
	for _, frames := range []int{1, 3, 64} {
		d := disk.New()
		p := open(t, d, frames)
		for page := range 300 {
			change(t, p, page*13%300, page, "of "+strconv.Itoa(page*13%300))
		}
		flush(t, p)
		q := open(t, d, frames)
		for page := range 300 {
			want := padded("")
			at := page * 277 % 300 // 13 times 277 is 1, modulo 300
			s := "of " + strconv.Itoa(page)
			want = want[:at] + s + want[at+len(s):]
			for _, x := range []*pool.Pool{p, q} {
				pin(t, x, page)
				reads(t, "through frames", x, page, want)
				unpin(t, x, page)
			}
			if onDisk(t, d, page) != want {
				t.Errorf("page %d: flushed, but the disk has it not", page)
			}
		}
	}
}
