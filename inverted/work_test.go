package inverted_test

import (
	"slices"
	"testing"

	"vestibule/api"
	"vestibule/disk"
	"vestibule/heap"
	"vestibule/inverted"
	"vestibule/method"
	"vestibule/space"
	"vestibule/tree"
)

// step puts an entry, or takes one out, in an index and in one in hand; of a hundred steps so many put.
func step(t *testing.T, c *chance, x *inverted.Inverted, p *method.Plain, puts int, e api.Entry) {
	t.Helper()
	if c.below(100) < puts {
		answers(t, x.Insert(e), p.Insert(e))
		return
	}
	if l := p.Entries(); len(l) > 0 && c.below(4) > 0 {
		e = l[c.below(len(l))]
	}
	answers(t, x.Delete(e), p.Delete(e))
}

// Am4, In3: whatever was put and taken out, it is as one in hand, and items find what they must.
func TestWork(t *testing.T) {
	for seed := range 20 {
		c := chance(seed)
		s, a, x := fresh(t)
		p := method.NewPlain()
		from := mixed(&c, items())[:1+c.below(len(items()))]
		from = append(from, longItem(1), longItem(2))
		tids, length := 1+c.below(40), 1+c.below(api.MaxItems)
		for n := range 500 {
			key := c.key(from, length)
			step(t, &c, x, p, []int{80, 40, 65, 20, 0}[n/100], entry(key, c.below(tids)*c.below(tids)))
			if c.below(60) == 0 {
				agrees(t, x, p)
				answers(t, a.Commit(), api.OK)
				a = begin(t, s)
				x = at(t, a, 2)
				allUsed(t, s, x)
			}
			if c.below(400) == 0 {
				answers(t, x.Drop(), p.Drop())
			}
		}
		agrees(t, x, p)
	}
}

// Am1, Am4: many entries, put and taken out in order, back, and in none.
func TestMany(t *testing.T) {
	l := sorted(500)
	back := slices.Clone(l)
	slices.Reverse(back)
	c := chance(3)
	none := mixed(&c, l)
	for _, in := range [][]api.Entry{l, back, none} {
		for _, out := range [][]api.Entry{l, back, none} {
			x := with(t, in...)
			holds(t, x, l...)
			for i, e := range out[:450] {
				answers(t, x.Delete(e), api.OK)
				answers(t, x.Delete(e), api.ErrNone)
				if i%50 == 0 {
					onPages(t, x, len(l)-i-1)
				}
			}
			agrees(t, x, plainWith(t, out[450:]...))
			for _, e := range out[:450] {
				answers(t, x.Insert(e), api.OK)
				answers(t, x.Insert(e), api.ErrName)
			}
			holds(t, x, l...)
		}
	}
}

// Am4: indexes at several roots, and what else stands in the space, know nothing of one another.
func TestApart(t *testing.T) {
	s := open(t, disk.New())
	a := begin(t, s)
	tr, _ := tree.New(a, 0)
	h, _ := heap.New(a, 1)
	tr.Put("k", "v")
	tid, _ := h.Insert("row")
	c := chance(31)
	var all []*inverted.Inverted
	var plains []*method.Plain
	for root := 2; root < api.MaxRoots; root++ {
		all, plains = append(all, at(t, a, root)), append(plains, method.NewPlain())
	}
	for n := range 2000 {
		i := c.below(len(all))
		step(t, &c, all[i], plains[i], []int{75, 45}[n/1000], entry(c.key(items(), 3), c.below(9)))
	}
	answers(t, all[3].Drop(), plains[3].Drop())
	for i, x := range all {
		agrees(t, x, plains[i])
	}
	if v, e := tr.Get("k"); v != "v" || e != api.OK || tr.Drop() != api.OK {
		t.Error(v, e)
	}
	if row, lives, e := h.Get(tid); row != "row" || !lives || e != api.OK || h.Kill(tid) != api.OK || h.Free(tid) != api.OK {
		t.Error(row, lives, e)
	}
	for _, page := range h.Pages() {
		a.Free(page)
	}
	a.SetRoot(1, 0)
	answers(t, a.Commit(), api.OK)
	a = begin(t, s)
	for i := range all {
		all[i] = at(t, a, i+2)
		agrees(t, all[i], plains[i])
	}
	allUsed(t, s, all...)
}

// In1: the index that stands at a root is what was committed there, for whoever opens the disk anew.
func TestCommitted(t *testing.T) {
	c := chance(11)
	d := disk.New()
	s := open(t, d)
	var kept []api.Entry
	for range 40 {
		a := begin(t, s)
		x := at(t, a, 15)
		p := plainWith(t, kept...)
		agrees(t, x, p)
		if c.below(9) == 0 {
			answers(t, x.Drop(), p.Drop())
			for _, e := range sorted(c.below(60)) {
				answers(t, x.Insert(e), p.Insert(e))
			}
		}
		for range c.below(50) {
			step(t, &c, x, p, 60, entry(c.key(items()[:6], 2), c.below(30)))
		}
		agrees(t, x, p)
		switch c.below(4) {
		case 0:
			answers(t, a.Abort(), api.OK)
		case 1: // the power fails
			s = open(t, d)
		case 2:
			answers(t, a.Commit(), api.OK)
			kept = p.Entries()
			s = open(t, d)
		default:
			answers(t, a.Commit(), api.OK)
			kept = p.Entries()
		}
	}
}

// In1: wherever the power fails, the index is as it was behind a Commit.
func TestCut(t *testing.T) {
	d := disk.New()
	s, e := space.Open(d, 4)
	answers(t, e, api.OK)
	a := begin(t, s)
	before := sorted(60)
	for _, e := range before {
		answers(t, at(t, a, 2).Insert(e), api.OK)
	}
	answers(t, a.Commit(), api.OK)
	first := d.Writes()
	a = begin(t, s)
	x := at(t, a, 2)
	for _, e := range before[20:50] {
		answers(t, x.Delete(e), api.OK)
	}
	answers(t, a.Commit(), api.OK)
	answers(t, s.Checkpoint(), api.OK)
	after := slices.Concat(before[:20], before[50:])
	for n := first; n <= d.Writes(); n++ {
		cut, _ := d.Cut(n)
		x := at(t, begin(t, open(t, cut)), 2)
		l := x.Entries()
		if n == first && len(l) != len(before) || n == d.Writes() && len(l) != len(after) {
			t.Fatalf("cut behind %d: %d entries", n, len(l))
		}
		if len(l) == len(before) {
			holds(t, x, before...)
		} else {
			holds(t, x, after...)
		}
	}
}
