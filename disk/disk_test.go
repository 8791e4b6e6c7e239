package disk_test

import (
	"math"
	"strings"
	"testing"
	"unsafe"

	"vestibule/api"
	"vestibule/disk"
)

// all are the bytes of each file of a disk.
func all(t *testing.T, d *disk.Disk) [4]string {
	t.Helper()
	var f [4]string
	for i := range f {
		s, e := d.Read(i, 0, d.Size(i))
		if e != api.OK || len(s) != d.Size(i) {
			t.Fatalf("file %d: %d bytes of %d, %d", i, len(s), d.Size(i), e)
		}
		f[i] = s
	}
	return f
}

// holds tells where a disk is not one of these files after so many raw writes.
func holds(t *testing.T, what string, d *disk.Disk, f [4]string, writes int) {
	t.Helper()
	if g := all(t, d); g != f {
		t.Errorf("%s: %.200q, not %.200q", what, g, f)
	}
	if d.Writes() != writes {
		t.Errorf("%s: %d raw writes, not %d", what, d.Writes(), writes)
	}
}

func write(t *testing.T, d *disk.Disk, file, at int, s string) {
	t.Helper()
	if e := d.Write(file, at, s); e != api.OK {
		t.Fatalf("Write(%d, %d, %.40q): %d", file, at, s, e)
	}
}

func trim(t *testing.T, d *disk.Disk, file, size int) {
	t.Helper()
	if e := d.Trim(file, size); e != api.OK {
		t.Fatalf("Trim(%d, %d): %d", file, size, e)
	}
}

func cut(t *testing.T, d *disk.Disk, n int) *disk.Disk {
	t.Helper()
	c, e := d.Cut(n)
	if e != api.OK || c == nil {
		t.Fatalf("Cut(%d): %v %d", n, c, e)
	}
	return c
}

// some is a disk with bytes on three of its files, after four raw writes.
func some(t *testing.T) (*disk.Disk, [4]string) {
	t.Helper()
	d := disk.New()
	write(t, d, 0, 0, "abcdef")
	write(t, d, 1, 2, "xy")
	write(t, d, 3, 0, "\x00\xff")
	trim(t, d, 0, 5)
	return d, [4]string{"abcde", "\x00\x00xy", "", "\x00\xff"}
}

// noFiles are numbers of no file.
var noFiles = []int{-1, 4, 5, math.MinInt, math.MaxInt, -1 << 32, 1 << 32}

// Di1: New.
func TestNew(t *testing.T) {
	d := disk.New()
	if d == nil {
		t.Fatal("none")
	}
	holds(t, "new", d, [4]string{}, 0)
	write(t, d, 2, 0, "a")
	holds(t, "another new one", disk.New(), [4]string{}, 0)
}

// Di1: Write, one behind the other on one file.
func TestWrite(t *testing.T) {
	for file := range 4 {
		d := disk.New()
		for i, c := range []struct {
			at   int
			s    string
			want string
		}{
			{0, "", ""},
			{0, "ab", "ab"},
			{2, "cd", "abcd"},
			{1, "X", "aXcd"},
			{0, "", "aXcd"},
			{2, "", "aXcd"},
			{4, "", "aXcd"},
			{3, "YZ", "aXcYZ"},
			{7, "e", "aXcYZ\x00\x00e"},
			{5, "\x00\xff", "aXcYZ\x00\xffe"},
			{10, "", "aXcYZ\x00\xffe\x00\x00"},
			{0, "0123456789", "0123456789"},
			{0, "0123456789+", "0123456789+"},
		} {
			write(t, d, file, c.at, c.s)
			var f [4]string
			f[file] = c.want
			holds(t, c.s, d, f, i+1)
		}
	}
}

// Di1: the bytes between a file's end and what is written behind it are noughts, whatever Trim took away there.
func TestNoughtsBetween(t *testing.T) {
	d := disk.New()
	write(t, d, 1, 0, strings.Repeat("z", 1000))
	trim(t, d, 1, 3)
	write(t, d, 1, 10, "a")
	holds(t, "written behind the end", d, [4]string{1: "zzz\x00\x00\x00\x00\x00\x00\x00a"}, 3)
	trim(t, d, 1, 2)
	write(t, d, 1, 4, "")
	holds(t, "made longer", d, [4]string{1: "zz\x00\x00"}, 5)
	trim(t, d, 1, 0)
	write(t, d, 1, 500, "")
	holds(t, "made longer from nothing", d, [4]string{1: strings.Repeat("\x00", 500)}, 7)
}

// Di1: a file has at most MaxFile bytes.
func TestLongestFile(t *testing.T) {
	const most = 1 << 22
	d := disk.New()
	write(t, d, 0, most-2, "ab")
	write(t, d, 1, most, "")
	write(t, d, 2, 0, strings.Repeat("c", most))
	for file, tail := range []string{"ab", "\x00\x00", "cc"} {
		if s, e := d.Read(file, most-2, 2); s != tail || e != api.OK || d.Size(file) != most {
			t.Errorf("file %d: %q %d, %d bytes", file, s, e, d.Size(file))
		}
	}
	f := all(t, d)
	for _, c := range []struct {
		at int
		s  string
	}{
		{most - 1, "xy"}, {most, "x"}, {most + 1, ""}, {most + 1, "x"}, {0, strings.Repeat("x", most+1)}, {1, strings.Repeat("x", most)},
		{math.MaxInt, ""}, {math.MaxInt, "x"}, {math.MaxInt - 1, "xyz"}, {1 << 32, "x"},
	} {
		for file := range 4 {
			if e := d.Write(file, c.at, c.s); e != api.ErrArg {
				t.Errorf("Write(%d, %d, %d bytes): %d", file, c.at, len(c.s), e)
			}
		}
	}
	holds(t, "refused", d, f, 3)
}

// Di1: what Write refuses, and that it changes nothing then (R2).
func TestWriteRefused(t *testing.T) {
	d, f := some(t)
	for _, file := range noFiles {
		for _, at := range []int{0, 2, -1} {
			for _, s := range []string{"", "x"} {
				if e := d.Write(file, at, s); e != api.ErrArg {
					t.Errorf("Write(%d, %d, %q): %d", file, at, s, e)
				}
			}
		}
	}
	for _, at := range []int{-1, -2, math.MinInt, -1 << 32} {
		for file := range 4 {
			for _, s := range []string{"", "x", "xyz"} {
				if e := d.Write(file, at, s); e != api.ErrArg {
					t.Errorf("Write(%d, %d, %q): %d", file, at, s, e)
				}
			}
		}
	}
	holds(t, "refused", d, f, 4)
}

// Di1: Trim.
func TestTrim(t *testing.T) {
	for file := range 4 {
		d := disk.New()
		trim(t, d, file, 0)
		write(t, d, file, 0, "abcdef")
		for i, c := range []struct {
			size int
			want string
		}{{6, "abcdef"}, {5, "abcde"}, {5, "abcde"}, {1, "a"}, {0, ""}, {0, ""}} {
			trim(t, d, file, c.size)
			var f [4]string
			f[file] = c.want
			holds(t, c.want, d, f, i+3)
		}
	}
}

// Di1: what Trim refuses, and that it changes nothing then (R2).
func TestTrimRefused(t *testing.T) {
	d, f := some(t)
	for _, file := range noFiles {
		for _, size := range []int{0, 1, -1} {
			if e := d.Trim(file, size); e != api.ErrArg {
				t.Errorf("Trim(%d, %d): %d", file, size, e)
			}
		}
	}
	for file := range 4 {
		for _, size := range []int{-1, math.MinInt, len(f[file]) + 1, 6, math.MaxInt} {
			if e := d.Trim(file, size); e != api.ErrArg {
				t.Errorf("Trim(%d, %d): %d", file, size, e)
			}
		}
	}
	holds(t, "refused", d, f, 4)
}

// Di1: Read, of each piece of a file, and what it refuses.
func TestRead(t *testing.T) {
	d, f := some(t)
	for file := range 4 {
		for at := -2; at <= 8; at++ {
			for n := -2; n <= 8; n++ {
				want, err := "", api.ErrArg
				if at >= 0 && n >= 0 && at+n <= len(f[file]) {
					want, err = f[file][at:at+n], api.OK
				}
				if s, e := d.Read(file, at, n); s != want || e != err {
					t.Errorf("Read(%d, %d, %d): %q %d, not %q %d", file, at, n, s, e, want, err)
				}
			}
		}
	}
	for _, c := range [][3]int{
		{0, math.MaxInt, 1}, {0, 1, math.MaxInt}, {0, math.MaxInt, math.MaxInt}, {0, math.MinInt, 1}, {0, 1, math.MinInt},
		{0, math.MinInt, math.MinInt}, {0, math.MinInt, math.MaxInt}, {0, math.MaxInt, math.MinInt}, {0, 1 << 32, 0}, {0, 0, 1 << 32},
	} {
		if s, e := d.Read(c[0], c[1], c[2]); s != "" || e != api.ErrArg {
			t.Errorf("Read(%d): %q %d", c, s, e)
		}
	}
	for _, file := range noFiles {
		if s, e := d.Read(file, 0, 0); s != "" || e != api.ErrArg {
			t.Errorf("Read(%d, 0, 0): %q %d", file, s, e)
		}
	}
	holds(t, "read", d, f, 4)
}

// Di1: Size of no file. (Of files: each other test.)
func TestSizeOfNone(t *testing.T) {
	d, f := some(t)
	for _, file := range noFiles {
		if n := d.Size(file); n != 0 {
			t.Errorf("Size(%d): %d", file, n)
		}
	}
	for file := range f {
		if n := d.Size(file); n != len(f[file]) {
			t.Errorf("Size(%d): %d", file, n)
		}
	}
}

// R3: a text that is handed in is not kept, and one that is answered stays as it is.
func TestTextsAreNotShared(t *testing.T) {
	b := []byte("abc")
	d := disk.New()
	write(t, d, 0, 0, unsafe.String(&b[0], len(b)))
	s, _ := d.Read(0, 0, 3)
	copy(b, "xyz")
	holds(t, "its text was changed", d, [4]string{"abc"}, 1)
	holds(t, "its text was changed, a cut", cut(t, d, 1), [4]string{"abc"}, 1)
	write(t, d, 0, 0, "def")
	if s != "abc" {
		t.Errorf("what was read: %q", s)
	}
}
