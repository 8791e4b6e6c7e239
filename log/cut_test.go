package log_test

import (
	"strconv"
	"strings"
	"testing"

	"vestibule/api"
	"vestibule/disk"
)

func cut(t *testing.T, d *disk.Disk, n int) *disk.Disk {
	t.Helper()
	c, e := d.Cut(n)
	if e != api.OK {
		t.Fatalf("Cut(%d): %d", n, e)
	}
	return c
}

// told are the records behind calls, by how many raw writes there were then: those of the last call, where there were as many.
type told map[int][]string

// at are the records behind the last call all of whose raw writes are among the first n.
func (w told) at(n int) []string {
	for ; n >= 0; n-- {
		if r, ok := w[n]; ok {
			return r
		}
	}
	return nil
}

// chance is numbers of all sorts, the same ones in each run.
type chance uint32

func (c *chance) below(n int) int {
	*c = *c*1664525 + 1013904223
	return int(*c>>8) % n
}

// work does calls of all sorts on a disk whose log holds these records, and tells what it held behind each of them.
func work(t *testing.T, d *disk.Disk, records []string, calls int, c *chance) told {
	t.Helper()
	w := told{d.Writes(): records}
	l, _ := open(t, d)
	for i := range calls {
		switch k := c.below(20); {
		case k < 2:
			reset(t, l)
			records = nil
		case k < 4: // raw writes that are not the log's stand between
			d.Write(1+c.below(3), c.below(50), "other")
		case k < 5:
			l, _ = open(t, d)
		case k < 6:
			l.Append("")
		default:
			s := strings.Repeat(strconv.Itoa(i)+"\x00", 1+c.below(60))
			app(t, l, s)
			records = append(records[:len(records):len(records)], s)
		}
		w[d.Writes()] = records
	}
	return w
}

// Lo2, Lo3: behind any number of raw writes the records are as behind the last call whose raw writes are all there.
func TestEachCut(t *testing.T) {
	c := chance(7)
	d := disk.New()
	w := work(t, d, nil, 400, &c)
	for n := range d.Writes() + 1 {
		holds(t, "cut at "+strconv.Itoa(n), cut(t, d, n), w.at(n))
	}
}

// Lo2: a log that was cut goes on, and is cut again.
func TestCutAgain(t *testing.T) {
	c := chance(99)
	d := disk.New()
	w := work(t, d, nil, 40, &c)
	for n := range d.Writes() + 1 {
		again := cut(t, d, n)
		more := work(t, again, w.at(n), 12, &c)
		for m := n; m <= again.Writes(); m++ {
			holds(t, "cut at "+strconv.Itoa(n)+", then at "+strconv.Itoa(m), cut(t, again, m), more.at(m))
		}
	}
}

// Lo2: a cut within what fills the file, and within the Reset of a full one.
func TestCutWhenFull(t *testing.T) {
	d := disk.New()
	l, _ := open(t, d)
	w := told{}
	var records []string
	for i := range 6 {
		s := strings.Repeat(strconv.Itoa(i), 1<<20)
		if l.Append(s) == api.OK {
			records = append(records[:len(records):len(records)], s)
		}
		w[d.Writes()] = records
	}
	if len(records) != 3 {
		t.Fatalf("%d records of 2^20 bytes", len(records))
	}
	reset(t, l)
	w[d.Writes()] = nil
	app(t, l, "a")
	w[d.Writes()] = []string{"a"}
	for n := range d.Writes() + 1 {
		holds(t, "cut at "+strconv.Itoa(n), cut(t, d, n), w.at(n))
	}
}

// Lo2: neither of a disk's log and its cut's knows of the other.
func TestCutsAreApart(t *testing.T) {
	d := disk.New()
	l, _ := open(t, d)
	app(t, l, "a")
	app(t, l, "b")
	c := cut(t, d, d.Writes())
	m, _ := open(t, c)
	reset(t, m)
	app(t, m, "c")
	app(t, l, "d")
	holds(t, "the disk", d, []string{"a", "b", "d"})
	holds(t, "its cut", c, []string{"c"})
}

// The chapter's example.
func TestExample(t *testing.T) {
	d := disk.New()
	l, _ := open(t, d)
	app(t, l, "a")
	app(t, l, "b")
	holds(t, "both", d, []string{"a", "b"})
	holds(t, "cut", cut(t, d, d.Writes()-1), []string{"a"})
}
