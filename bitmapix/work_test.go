package bitmapix_test

import (
	"slices"
	"testing"

	"vestibule/api"
	"vestibule/bitmapix"
	"vestibule/disk"
	"vestibule/heap"
	"vestibule/method"
	"vestibule/space"
	"vestibule/tree"
)

// step puts an entry, or takes one out, in an index and in one in hand; of a hundred steps so many put.
func step(t *testing.T, c *chance, x *bitmapix.Bitmap, p *method.Plain, puts int, e api.Entry) {
	t.Helper()
	if c.below(100) < puts {
		answers(t, x.Insert(e), p.Insert(e))
	} else {
		answers(t, x.Delete(e), p.Delete(e))
	}
}

// Am4: whatever was put and taken out, it is as one in hand.
func TestWork(t *testing.T) {
	keys := slices.Concat(rising(), longest(40))
	for seed := range 20 {
		c := chance(seed)
		s, a, x := fresh(t)
		p := method.NewPlain()
		few, tids := 1+c.below(len(keys)), 1+c.below(40)
		for n := range 600 {
			step(t, &c, x, p, []int{80, 40, 65, 20}[n/150], entry(keys[c.below(few)], c.below(tids)*c.below(tids)))
			if c.below(60) == 0 {
				agrees(t, x, p)
				answers(t, a.Commit(), api.OK)
				a = begin(t, s)
				x = at(t, a, 2)
				allUsed(t, s, x)
			}
			if c.below(400) == 0 {
				answers(t, x.Drop(), p.Drop())
			}
		}
		agrees(t, x, p)
	}
}

// Am1, Am4: many entries, put and taken out in order, back, and in none.
func TestMany(t *testing.T) {
	l := sorted(2000)
	back := slices.Clone(l)
	slices.Reverse(back)
	c := chance(3)
	none := mixed(&c, l)
	for _, in := range [][]api.Entry{l, back, none} {
		for _, out := range [][]api.Entry{l, back, none} {
			x := with(t, in...)
			holds(t, x, l...)
			for i, e := range out[:1900] {
				answers(t, x.Delete(e), api.OK)
				answers(t, x.Delete(e), api.ErrNone)
				if i%100 == 0 {
					onPages(t, x, len(l)-i-1)
				}
			}
			holds(t, x, plainWith(t, out[1900:]...).Entries()...)
			for _, e := range out[:1900] {
				answers(t, x.Insert(e), api.OK)
				answers(t, x.Insert(e), api.ErrName)
			}
			holds(t, x, l...)
		}
	}
}

// Am1: many addresses of one key, and of its neighbours.
func TestManyOfOneKey(t *testing.T) {
	const n = 3000
	x := with(t, entry(text("a"), 1), entry(text("b\x00"), 3), entry(text("c"), 2))
	var want []int
	for i := range n {
		answers(t, x.Insert(entry(text("b"), (i*1931)%n*5000)), api.OK)
		want = append(want, 5000*i)
	}
	finds(t, x, text("b"), want...)
	finds(t, x, text("a"), 1)
	finds(t, x, text("b\x00"), 3)
	finds(t, x, text("c"), 2)
}

// Am1: few entries stand on few pages.
func TestFewPages(t *testing.T) {
	_, _, x := fresh(t)
	for i, key := range longest(300) {
		onPages(t, x, i)
		answers(t, x.Insert(entry(key, i)), api.OK)
	}
	if n := len(x.Pages()); n > 150 {
		t.Errorf("%d pages", n)
	}
}

// Am4: indexes at several roots, and what else stands in the space, know nothing of one another.
func TestApart(t *testing.T) {
	s := open(t, disk.New())
	a := begin(t, s)
	tr, _ := tree.New(a, 0)
	h, _ := heap.New(a, 1)
	tr.Put("k", "v")
	tid, _ := h.Insert("row")
	c := chance(31)
	keys := slices.Concat(rising(), longest(20))
	var all []*bitmapix.Bitmap
	var plains []*method.Plain
	for root := 2; root < api.MaxRoots; root++ {
		all, plains = append(all, at(t, a, root)), append(plains, method.NewPlain())
	}
	for n := range 4000 {
		i := c.below(len(all))
		step(t, &c, all[i], plains[i], []int{75, 45}[n/2000], entry(keys[c.below(len(keys))], c.below(9)))
	}
	answers(t, all[3].Drop(), plains[3].Drop())
	for i, x := range all {
		agrees(t, x, plains[i])
	}
	if v, e := tr.Get("k"); v != "v" || e != api.OK || tr.Drop() != api.OK {
		t.Error(v, e)
	}
	if row, lives, e := h.Get(tid); row != "row" || !lives || e != api.OK || h.Kill(tid) != api.OK || h.Free(tid) != api.OK {
		t.Error(row, lives, e)
	}
	for _, page := range h.Pages() {
		a.Free(page)
	}
	a.SetRoot(1, 0)
	answers(t, a.Commit(), api.OK)
	a = begin(t, s)
	for i := range all {
		all[i] = at(t, a, i+2)
		agrees(t, all[i], plains[i])
	}
	allUsed(t, s, all...)
}

// Bm1: the index that stands at a root is what was committed there, for whoever opens the disk anew.
func TestCommitted(t *testing.T) {
	c := chance(11)
	d := disk.New()
	s := open(t, d)
	var kept []api.Entry
	for range 40 {
		a := begin(t, s)
		x := at(t, a, 15)
		p := plainWith(t, kept...)
		agrees(t, x, p)
		if c.below(9) == 0 {
			answers(t, x.Drop(), p.Drop())
			l := sorted(c.below(200))
			for _, e := range l {
				answers(t, x.Insert(e), p.Insert(e))
			}
		}
		for range c.below(80) {
			step(t, &c, x, p, 60, entry(integer(c.below(30)), c.below(30)))
		}
		agrees(t, x, p)
		switch c.below(4) {
		case 0:
			answers(t, a.Abort(), api.OK)
		case 1: // the power fails
			s = open(t, d)
		case 2:
			answers(t, a.Commit(), api.OK)
			kept = p.Entries()
			s = open(t, d)
		default:
			answers(t, a.Commit(), api.OK)
			kept = p.Entries()
		}
	}
}

// Bm1: wherever the power fails, the index is as it was behind a Commit.
func TestCut(t *testing.T) {
	d := disk.New()
	s, e := space.Open(d, 4)
	answers(t, e, api.OK)
	a := begin(t, s)
	for _, e := range sorted(120) {
		answers(t, at(t, a, 2).Insert(e), api.OK)
	}
	answers(t, a.Commit(), api.OK)
	first := d.Writes()
	a = begin(t, s)
	x := at(t, a, 2)
	for _, e := range sorted(120)[30:110] {
		answers(t, x.Delete(e), api.OK)
	}
	answers(t, a.Commit(), api.OK)
	answers(t, s.Checkpoint(), api.OK)
	after := slices.Concat(sorted(120)[:30], sorted(120)[110:])
	for n := first; n <= d.Writes(); n++ {
		cut, _ := d.Cut(n)
		x := at(t, begin(t, open(t, cut)), 2)
		l := x.Entries()
		if n == first && len(l) != 120 || n == d.Writes() && len(l) != len(after) || len(l) != 120 && len(l) != len(after) {
			t.Fatalf("cut behind %d: %d entries", n, len(l))
		}
		if len(l) == 120 {
			holds(t, x, sorted(120)...)
		} else {
			holds(t, x, after...)
		}
	}
}
