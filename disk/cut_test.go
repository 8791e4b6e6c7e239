package disk_test

import (
	"math"
	"strings"
	"testing"

	"vestibule/api"
	"vestibule/disk"
)

// step is a raw write: of Trim, where trims, else of Write.
type step struct {
	trims    bool
	file, at int
	s        string
}

func (s step) on(t *testing.T, d *disk.Disk) {
	t.Helper()
	if s.trims {
		trim(t, d, s.file, s.at)
	} else {
		write(t, d, s.file, s.at, s.s)
	}
}

// inHand does a raw write on files in hand.
func (s step) inHand(f [4]string) [4]string {
	b := f[s.file]
	if s.trims {
		f[s.file] = b[:s.at]
		return f
	}
	end := s.at + len(s.s)
	if end > len(b) {
		b += strings.Repeat("\x00", end-len(b))
	}
	f[s.file] = b[:s.at] + s.s + b[end:]
	return f
}

// script is raw writes of all sorts, and the files ahead of each of them and behind the last.
func script(n int) ([]step, [][4]string) {
	var steps []step
	states := [][4]string{{}}
	x := uint32(12345)
	next := func(n int) int {
		x = x*1664525 + 1013904223
		return int(x>>8) % n
	}
	for range n {
		f := states[len(states)-1]
		s := step{file: next(4)}
		size := len(f[s.file])
		switch next(5) {
		case 0:
			s.trims, s.at = true, next(size+1)
		case 1:
			s.at = size + next(20)
		case 2:
			s.at, s.s = size+next(20), strings.Repeat("e", next(9))
		default:
			s.at, s.s = next(size+1), string(rune('a'+next(26)))+strings.Repeat("m", next(9))
		}
		steps = append(steps, s)
		states = append(states, s.inHand(f))
	}
	return steps, states
}

// Di1: a disk goes as files in hand do. Di2: each cut is as the disk was. Di3: the writes done again lead to the same.
func TestEachCut(t *testing.T) {
	steps, states := script(300)
	d, again := disk.New(), disk.New()
	for i, s := range steps {
		holds(t, "on its way", d, states[i], i)
		s.on(t, d)
	}
	for n := range states {
		c := cut(t, d, n)
		holds(t, "cut", c, states[n], n)
		holds(t, "again", again, states[n], n)
		if n < len(steps) {
			steps[n].on(t, again)
		}
	}
	holds(t, "behind all cuts", d, states[len(steps)], len(steps))
}

// Di3: a cut of a cut is the cut by the lesser number.
func TestCutOfCut(t *testing.T) {
	steps, states := script(40)
	d := disk.New()
	for _, s := range steps {
		s.on(t, d)
	}
	for n := range states {
		c := cut(t, d, n)
		for m := range states {
			x, e := c.Cut(m)
			if m > n {
				if x != nil || e != api.ErrArg {
					t.Errorf("Cut(%d), Cut(%d): %v %d", n, m, x, e)
				}
				continue
			}
			if e != api.OK {
				t.Fatalf("Cut(%d), Cut(%d): %d", n, m, e)
			}
			holds(t, "cut of a cut", x, states[m], m)
		}
	}
}

// Di2: neither of a disk and its cut knows of the other; two cuts neither.
func TestCutsAreApart(t *testing.T) {
	d, f := some(t)
	a, b := cut(t, d, 4), cut(t, d, 4)
	write(t, a, 0, 1, "AAAA")
	trim(t, b, 0, 1)
	write(t, d, 0, 5, "DD")
	holds(t, "the disk", d, [4]string{"abcdeDD", f[1], f[2], f[3]}, 5)
	holds(t, "a cut", a, [4]string{"aAAAA", f[1], f[2], f[3]}, 5)
	holds(t, "another", b, [4]string{"a", f[1], f[2], f[3]}, 5)
	write(t, b, 2, 0, "b")
	write(t, a, 2, 0, "aa")
	trim(t, d, 0, 0)
	// Their raw writes are apart, too: each tells its own ones again.
	holds(t, "the disk, cut", cut(t, d, 5), [4]string{"abcdeDD", f[1], f[2], f[3]}, 5)
	holds(t, "the disk, cut behind all", cut(t, d, 6), [4]string{"", f[1], f[2], f[3]}, 6)
	holds(t, "a cut, cut", cut(t, a, 5), [4]string{"aAAAA", f[1], f[2], f[3]}, 5)
	holds(t, "a cut, cut behind all", cut(t, a, 6), [4]string{"aAAAA", f[1], "aa", f[3]}, 6)
	holds(t, "another, cut", cut(t, b, 5), [4]string{"a", f[1], f[2], f[3]}, 5)
	holds(t, "another, cut behind all", cut(t, b, 6), [4]string{"a", f[1], "b", f[3]}, 6)
}

// Di2: what Cut refuses.
func TestCutRefused(t *testing.T) {
	d, f := some(t)
	for _, n := range []int{-1, 5, math.MinInt, math.MaxInt, 1 << 32, -1 << 32} {
		if c, e := d.Cut(n); c != nil || e != api.ErrArg {
			t.Errorf("Cut(%d): %v %d", n, c, e)
		}
	}
	holds(t, "refused", d, f, 4)
	if c, e := disk.New().Cut(1); c != nil || e != api.ErrArg {
		t.Error(c, e)
	}
	holds(t, "cut of an empty disk", cut(t, disk.New(), 0), [4]string{}, 0)
}

// Di2: refused calls are no raw writes.
func TestCutBehindRefusals(t *testing.T) {
	d := disk.New()
	write(t, d, 0, 0, "a")
	d.Write(4, 0, "x")
	d.Trim(0, 2)
	d.Read(0, 0, 2)
	d.Cut(2)
	write(t, d, 0, 1, "b")
	holds(t, "behind one", cut(t, d, 1), [4]string{"a"}, 1)
	holds(t, "behind both", cut(t, d, 2), [4]string{"ab"}, 2)
}

// Di2, R1: of a disk that New and Cut did not give.
func TestNoDisk(t *testing.T) {
	d, f := some(t)
	copied := *d
	for i, x := range []*disk.Disk{nil, {}, &copied} {
		if e := x.Write(0, 0, "a"); e != api.ErrArg {
			t.Errorf("%d: Write: %d", i, e)
		}
		if e := x.Write(9, -1, ""); e != api.ErrArg {
			t.Errorf("%d: Write of no file: %d", i, e)
		}
		if e := x.Trim(0, 0); e != api.ErrArg {
			t.Errorf("%d: Trim: %d", i, e)
		}
		if s, e := x.Read(0, 0, 0); s != "" || e != api.ErrArg {
			t.Errorf("%d: Read: %q %d", i, s, e)
		}
		if c, e := x.Cut(0); c != nil || e != api.ErrArg {
			t.Errorf("%d: Cut: %v %d", i, c, e)
		}
		if x.Size(0) != 0 || x.Size(-1) != 0 || x.Writes() != 0 {
			t.Errorf("%d: %d bytes, %d raw writes", i, x.Size(0), x.Writes())
		}
	}
	holds(t, "the disk that was copied", d, f, 4)
}

// The chapter's example.
func TestExample(t *testing.T) {
	d := disk.New()
	write(t, d, 1, 2, "ab")
	holds(t, "written", d, [4]string{1: "\x00\x00ab"}, 1)
	trim(t, d, 1, 3)
	holds(t, "trimmed", d, [4]string{1: "\x00\x00a"}, 2)
	holds(t, "cut", cut(t, d, 1), [4]string{1: "\x00\x00ab"}, 1)
}
