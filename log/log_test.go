package log_test

import (
	"slices"
	"strings"
	"testing"
	"unsafe"

	"vestibule/api"
	"vestibule/disk"
	"vestibule/log"
)

// room is how many bytes a record takes at most besides its own.
const room = 16

func open(t *testing.T, d *disk.Disk) (*log.Log, []string) {
	t.Helper()
	l, r, e := log.Open(d)
	if e != api.OK || l == nil {
		t.Fatalf("Open: %v %d", l, e)
	}
	return l, r
}

func app(t *testing.T, l *log.Log, s string) {
	t.Helper()
	if e := l.Append(s); e != api.OK {
		t.Fatalf("Append(%.40q), of %d bytes: %d", s, len(s), e)
	}
}

func reset(t *testing.T, l *log.Log) {
	t.Helper()
	if e := l.Reset(); e != api.OK {
		t.Fatalf("Reset: %d", e)
	}
}

// holds tells where a disk's log does not hold just these records.
func holds(t *testing.T, what string, d *disk.Disk, want []string) {
	t.Helper()
	l, r := open(t, d)
	if !slices.Equal(r, want) {
		t.Errorf("%s: %d records %.200q, not %d %.200q", what, len(r), r, len(want), want)
	}
	if l.Len() != len(want) {
		t.Errorf("%s: Len %d, not %d", what, l.Len(), len(want))
	}
}

// odd are texts that look like what might stand in the file around records.
func odd() []string {
	every := make([]byte, 256)
	for i := range every {
		every[i] = byte(i)
	}
	return []string{
		"a", "\x00", "\xff", "\x00\x00\x00\x00", "\x00\x00\x00\x01", "\x01\x00\x00\x00", "\x00\x00\x00\x01a\x00\x00\x00\x01",
		strings.Repeat("\x00", 100), strings.Repeat("\xff", 100), "a", "a", "\n", "a\nb", string(every), strings.Repeat("x", 255),
		strings.Repeat("x", 256), strings.Repeat("x", 257), strings.Repeat("y", 65535), strings.Repeat("y", 65536), "é", "\x80",
	}
}

// Lo1: an empty disk holds no records.
func TestOpenEmpty(t *testing.T) {
	d := disk.New()
	holds(t, "empty", d, nil)
	// What stands on the other files is none of the log's.
	for f := 1; f < 4; f++ {
		d.Write(f, 0, "\x00\x00\x00\x01a\x00\x00\x00\x01")
	}
	holds(t, "with other files", d, nil)
}

// Lo1: each record is the last one when it is appended; Len goes along; who opens the disk is told all, in order.
func TestAppend(t *testing.T) {
	d := disk.New()
	l, _ := open(t, d)
	var want []string
	for _, s := range odd() {
		app(t, l, s)
		want = append(want, s)
		if l.Len() != len(want) {
			t.Errorf("%.40q: Len %d, not %d", s, l.Len(), len(want))
		}
		holds(t, "behind one more", d, want)
	}
	for f := 1; f < 4; f++ {
		if d.Size(f) != 0 {
			t.Errorf("file %d has %d bytes", f, d.Size(f))
		}
	}
}

// Lo1: so many records that their number takes more than two bytes.
func TestMany(t *testing.T) {
	d := disk.New()
	l, _ := open(t, d)
	want := make([]string, 70000)
	for i := range want {
		want[i] = string(rune('a' + i%26))
		app(t, l, want[i])
		if l.Len() != i+1 {
			t.Fatalf("Len %d, not %d", l.Len(), i+1)
		}
	}
	holds(t, "many", d, want)
}

// Lo1: Reset leaves no records, of which there may be more again.
func TestReset(t *testing.T) {
	d := disk.New()
	l, _ := open(t, d)
	reset(t, l)
	holds(t, "reset when empty", d, nil)
	for i := range 4 {
		var want []string
		for _, s := range odd()[:i*3+1] {
			app(t, l, s)
			want = append(want, s)
		}
		holds(t, "appended", d, want)
		reset(t, l)
		if l.Len() != 0 {
			t.Errorf("Len %d behind Reset", l.Len())
		}
		holds(t, "reset", d, nil)
		reset(t, l)
		holds(t, "reset twice", d, nil)
	}
}

// Lo1: a log that was opened on records goes on behind them.
func TestOpenedAgain(t *testing.T) {
	d := disk.New()
	var want []string
	for _, s := range odd() {
		l, r := open(t, d)
		if !slices.Equal(r, want) || l.Len() != len(want) {
			t.Fatalf("%d records, Len %d, not %d", len(r), l.Len(), len(want))
		}
		app(t, l, s)
		want = append(want, s)
	}
	l, _ := open(t, d)
	reset(t, l)
	holds(t, "reset by another", d, nil)
}

// Lo1, R4: what two logs of one disk do is done to the same records.
func TestTwoLogs(t *testing.T) {
	d := disk.New()
	a, _ := open(t, d)
	b, _ := open(t, d)
	app(t, a, "1")
	app(t, b, "2")
	app(t, b, "3")
	app(t, a, "4")
	if a.Len() != 4 || b.Len() != 4 {
		t.Errorf("Len %d and %d, not 4", a.Len(), b.Len())
	}
	holds(t, "by two", d, []string{"1", "2", "3", "4"})
	reset(t, a)
	if a.Len() != 0 || b.Len() != 0 {
		t.Errorf("Len %d and %d, not 0", a.Len(), b.Len())
	}
	app(t, b, "5")
	holds(t, "by the other, behind Reset", d, []string{"5"})
}

// Lo1: what Append refuses by its length, and that it changes nothing then (R2).
func TestAppendRefused(t *testing.T) {
	d := disk.New()
	l, _ := open(t, d)
	for _, want := range [][]string{nil, {"a"}} {
		writes := d.Writes()
		for _, s := range []string{"", strings.Repeat("x", 1<<20+1), strings.Repeat("x", 1<<22+1)} {
			if e := l.Append(s); e != api.ErrLog {
				t.Errorf("Append of %d bytes: %d", len(s), e)
			}
		}
		if l.Len() != len(want) || d.Writes() != writes {
			t.Errorf("refused: Len %d, %d raw writes more", l.Len(), d.Writes()-writes)
		}
		holds(t, "refused", d, want)
		app(t, l, "a")
	}
}

// Lo1: a record has at most MaxRecord bytes, and takes at most 16 more; the file has nothing besides.
func TestBytesOfRecords(t *testing.T) {
	d := disk.New()
	l, _ := open(t, d)
	if d.Size(0) != 0 {
		t.Errorf("%d bytes of no records", d.Size(0))
	}
	var want []string
	for _, n := range []int{1, 2, 127, 128, 255, 256, 512, 65535, 65536, 1<<20 - 1, 1 << 20} {
		size := d.Size(0)
		want = append(want, strings.Repeat("r", n))
		app(t, l, want[len(want)-1])
		if more := d.Size(0) - size; more < n || more > n+room {
			t.Errorf("a record of %d bytes takes %d", n, more)
		}
	}
	holds(t, "of all lengths", d, want)
	reset(t, l)
	if d.Size(0) != 0 {
		t.Errorf("%d bytes behind Reset", d.Size(0))
	}
}

// Lo1: the file may have MaxFile bytes, and no more; what does not fit is refused, and changes nothing (R2).
func TestFull(t *testing.T) {
	d := disk.New()
	l, _ := open(t, d)
	great := strings.Repeat("g", 1<<20)
	app(t, l, great)
	besides := d.Size(0) - len(great)
	app(t, l, great)
	app(t, l, great)
	fits := 1<<22 - d.Size(0) - besides
	for range 3 {
		writes := d.Writes()
		for n := fits + 1; n <= fits+besides+1 && n <= 1<<20; n++ {
			if e := l.Append(strings.Repeat("f", n)); e != api.ErrFull {
				t.Errorf("a record of %d bytes, where %d fit: %d", n, fits, e)
			}
		}
		if e := l.Append(great + "g"); e != api.ErrLog {
			t.Errorf("a record that is too long, where it would not fit either: %d", e)
		}
		if e := l.Append(""); e != api.ErrLog {
			t.Errorf("an empty record, where few fit: %d", e)
		}
		if l.Len() != 3 || d.Writes() != writes {
			t.Errorf("refused: Len %d, %d raw writes more", l.Len(), d.Writes()-writes)
		}
	}
	holds(t, "refused", d, []string{great, great, great})
	app(t, l, strings.Repeat("f", fits))
	if d.Size(0) != 1<<22 {
		t.Errorf("a full file has %d bytes", d.Size(0))
	}
	holds(t, "full", d, []string{great, great, great, strings.Repeat("f", fits)})
	if e := l.Append("x"); e != api.ErrFull {
		t.Errorf("behind the last byte: %d", e)
	}
	reset(t, l)
	app(t, l, great)
	holds(t, "behind Reset", d, []string{great})
}

// Lo1: what fits when each record takes 16 bytes more is never refused.
func TestFitsWithRoom(t *testing.T) {
	d := disk.New()
	l, _ := open(t, d)
	last := 1<<20 - 4*room
	for _, n := range []int{1 << 20, 1 << 20, 1 << 20, last} {
		app(t, l, strings.Repeat("r", n))
	}
	if l.Len() != 4 {
		t.Errorf("Len %d", l.Len())
	}
}

// R1: Open of no disk.
func TestOpenNoDisk(t *testing.T) {
	copied := *disk.New()
	for i, d := range []*disk.Disk{nil, {}, &copied} {
		if l, r, e := log.Open(d); l != nil || len(r) != 0 || e != api.ErrArg {
			t.Errorf("%d: %v %q %d", i, l, r, e)
		}
	}
}

// R1: of a log that Open did not give.
func TestNoLog(t *testing.T) {
	d := disk.New()
	l, _ := open(t, d)
	app(t, l, "a")
	copied := *l
	for i, x := range []*log.Log{nil, {}, &copied} {
		for _, s := range []string{"b", "", strings.Repeat("x", 1<<20+1)} {
			if e := x.Append(s); e != api.ErrArg {
				t.Errorf("%d: Append of %d bytes: %d", i, len(s), e)
			}
		}
		if e := x.Reset(); e != api.ErrArg {
			t.Errorf("%d: Reset: %d", i, e)
		}
		if x.Len() != 0 {
			t.Errorf("%d: Len %d", i, x.Len())
		}
	}
	holds(t, "the log that was copied", d, []string{"a"})
}

// R1: whatever stands on file 0, calls end, and none panics.
func TestStrangeFile(t *testing.T) {
	for _, s := range []string{
		"x", "\x00\x00\x00", "\x00\x00\x00\x00", "\xff\xff\xff\xff", "\x00\x00\x00\x01", "\x00\x00\x00\x01a\x00\x00\x00",
		"\xff\xff\xff\xff\xff\xff\xff\xff", "\x7f\xff\xff\xff\x00\x00\x00\x00\x00", strings.Repeat("\x00", 1000), strings.Repeat("\xff", 1000),
		strings.Repeat("\x00", 1<<22), strings.Repeat("abc", 999),
	} {
		d := disk.New()
		d.Write(0, 0, s)
		l, _, _ := log.Open(d)
		l.Len()
		l.Append("a")
		l.Len()
		log.Open(d)
		reset(t, l)
		app(t, l, "b")
		holds(t, "behind Reset", d, []string{"b"})
	}
}

// R3: a text that is handed in is not kept, and what is answered is new.
func TestNothingIsShared(t *testing.T) {
	b := []byte("abc")
	d := disk.New()
	l, _ := open(t, d)
	app(t, l, unsafe.String(&b[0], len(b)))
	copy(b, "xyz")
	app(t, l, "d")
	_, r := open(t, d)
	r[0], r[1] = "", ""
	_ = append(r[:0], "q", "q")
	holds(t, "a list that was told was changed", d, []string{"abc", "d"})
	_, r = open(t, d)
	reset(t, l)
	app(t, l, "zzz")
	if !slices.Equal(r, []string{"abc", "d"}) {
		t.Errorf("what was told ahead: %q", r)
	}
}
