package heap_test

import (
	"maps"
	"slices"
	"strconv"
	"strings"
	"testing"

	"vestibule/api"
	"vestibule/disk"
	"vestibule/heap"
	"vestibule/space"
	"vestibule/tree"
)

// chance is numbers of all sorts, the same ones in each run.
type chance uint32

func (c *chance) below(n int) int {
	*c = *c*1664525 + 1013904223
	return int(*c>>8) % n
}

// bytes is a text of bytes of any sort.
func (c *chance) bytes(length int) string {
	b := make([]byte, length)
	for i := range b {
		b[i] = byte(c.below(256))
	}
	return string(b)
}

// entry is a row in hand.
type entry struct {
	row  string
	dead bool
}

// hand is rows in hand, by their addresses, and how many there were at most.
type hand struct {
	rows map[int]entry
	most int
}

func newHand() *hand { return &hand{rows: map[int]entry{}} }

func (h *hand) clone() *hand { return &hand{maps.Clone(h.rows), h.most} }

// tids are the addresses of rows, dead ones alone or all, rising.
func (h *hand) tids(deadOnes bool) []int {
	var l []int
	for _, tid := range slices.Sorted(maps.Keys(h.rows)) {
		if h.rows[tid].dead || !deadOnes {
			l = append(l, tid)
		}
	}
	return l
}

// same tells where a heap is not as a hand.
func (h *hand) same(t *testing.T, what string, x *heap.Heap) {
	t.Helper()
	are(t, what, x, h.tids(false), h.tids(true))
	pages := h.onPages(t, what, x)
	for tid, r := range h.rows {
		holds(t, what, x, tid, r.row, !r.dead)
		if _, found := slices.BinarySearch(pages, heap.Page(tid)); !found {
			t.Errorf("%s: %d is on none of the pages", what, tid)
		}
	}
	if t.Failed() {
		t.FailNow()
	}
}

// onPages tells where a heap stands on more pages than it may, or Pages does not tell them as it must.
func (h *hand) onPages(t *testing.T, what string, x *heap.Heap) []int {
	t.Helper()
	pages := x.Pages()
	if len(pages) > h.most+8 {
		t.Fatalf("%s: %d rows at most on %d pages", what, h.most, len(pages))
	}
	for i, page := range pages {
		if page < 1 || page > 4095 || i > 0 && pages[i-1] >= page {
			t.Fatalf("%s: Pages: %v", what, pages)
		}
	}
	return pages
}

func (h *hand) insert(t *testing.T, x *heap.Heap, row string) int {
	t.Helper()
	tid := insert(t, x, row)
	if r, held := h.rows[tid]; held {
		t.Fatalf("Insert: %d, which holds %.40q, dead %t", tid, r.row, r.dead)
	}
	h.rows[tid] = entry{row, false}
	h.most = max(h.most, len(h.rows))
	return tid
}

func (h *hand) kill(t *testing.T, x *heap.Heap, tid int) {
	t.Helper()
	kill(t, x, tid)
	h.rows[tid] = entry{h.rows[tid].row, true}
}

func (h *hand) free(t *testing.T, x *heap.Heap, tid int) {
	t.Helper()
	free(t, x, tid)
	delete(h.rows, tid)
}

// step inserts a row, or kills one, or frees one that is dead; of a hundred steps so many insert.
func (h *hand) step(t *testing.T, x *heap.Heap, c *chance, inserts int, row string) {
	t.Helper()
	l := h.tids(false)
	if len(l) == 0 || c.below(100) < inserts {
		h.insert(t, x, row)
		return
	}
	tid := l[c.below(len(l))]
	switch r := h.rows[tid]; {
	case !r.dead && c.below(4) == 0:
		if e := x.Free(tid); e != api.ErrNone {
			t.Fatalf("Free of one that lives: %d", e)
		}
	case !r.dead:
		h.kill(t, x, tid)
	case c.below(4) == 0:
		if e := x.Kill(tid); e != api.ErrNone {
			t.Fatalf("Kill of a dead one: %d", e)
		}
	default:
		h.free(t, x, tid)
		lacks(t, "freed", x, tid)
	}
}

// allUsed tells where a page is neither free nor one of these.
func allUsed(t *testing.T, what string, s *space.Space, pages ...int) {
	t.Helper()
	count, all := s.Pages()
	all = append(all, pages...)
	slices.Sort(all)
	for i := range count {
		if len(all) != count || all[i] != i+1 {
			t.Fatalf("%s: %d pages, not each once: %v", what, count, all)
		}
	}
}

// The sorts of rows.
var sorts = []struct {
	name string
	row  func(c *chance) string
}{
	{"one byte", func(c *chance) string { return c.bytes(1) }},
	{"short", func(c *chance) string { return c.bytes(1 + c.below(20)) }},
	{"longest", func(c *chance) string { return c.bytes(400) }},
	{"all lengths", func(c *chance) string { return c.bytes(1 + c.below(400)) }},
	{"half a page", func(c *chance) string { return c.bytes(230 + c.below(30)) }},
	{"long and short", func(c *chance) string { return c.bytes(1 + c.below(2)*399) }},
	{"noughts", func(c *chance) string { return strings.Repeat("\x00", 1+c.below(400)) }},
}

// Hp1, Hp3: whatever is inserted, killed and freed, the heap is as rows in hand, and its pages are few, and all that are
// not free.
func TestWork(t *testing.T) {
	for i, sort := range sorts {
		c := chance(i + 1)
		s, a, x := fresh(t)
		h := newHand()
		for n := range 2000 {
			h.step(t, x, &c, []int{80, 20, 50, 10}[n/500], sort.row(&c))
			h.onPages(t, sort.name, x)
			if n%97 == 0 {
				h.same(t, sort.name, x)
				commit(t, a)
				a = begin(t, s)
				x = heapAt(t, a, 0)
				allUsed(t, sort.name, s, x.Pages()...)
			}
		}
		h.same(t, sort.name, x)
		for _, tid := range h.tids(false) {
			if !h.rows[tid].dead {
				h.kill(t, x, tid)
			}
			h.free(t, x, tid)
		}
		h.same(t, sort.name, x)
		isEmpty(t, sort.name, x)
		commit(t, a)
		a = begin(t, s)
		allUsed(t, sort.name, s, heapAt(t, a, 0).Pages()...)
	}
}

// Hp3: a heap of which a row here and there is left stands on few pages, whichever they are; be it at one end of the
// space, or beside another's pages.
func TestFewRowsLeft(t *testing.T) {
	for _, size := range []int{1, 7, 100, 250, 400} {
		for _, ahead := range []int{0, 1500} {
			s, a, x := fresh(t)
			for range ahead {
				a.Alloc()
			}
			h := newHand()
			for range 2000 {
				h.insert(t, x, strings.Repeat("r", size))
			}
			for i, tid := range h.tids(false) {
				if i%100 != 50 {
					h.kill(t, x, tid)
				}
			}
			h.same(t, "killed", x)
			commit(t, a)
			a = begin(t, s)
			x = heapAt(t, a, 0)
			for _, tid := range h.tids(true) {
				h.free(t, x, tid)
			}
			h.same(t, "freed", x)
			if n := len(x.Pages()); len(h.rows) != 20 || n > len(h.rows)+5 {
				t.Errorf("%d bytes: %d rows on %d pages", size, len(h.rows), n)
			}
		}
	}
}

// Hp3: a heap's pages are few also where each stands in another part of the space, and never held many rows.
func TestApartPages(t *testing.T) {
	_, a, x := fresh(t)
	h := newHand()
	filled := fill(t, a)
	for i := 0; i < len(filled); i += 500 {
		for _, page := range filled[i:min(i+3, len(filled))] { // of the last ones none may be of use
			a.Free(page)
		}
		if tid, e := x.Insert(strings.Repeat("r", 400)); e == api.OK {
			h.rows[tid] = entry{strings.Repeat("r", 400), false}
			h.most = len(h.rows)
		}
		fill(t, a)
	}
	h.same(t, "apart", x)
	if len(h.rows) < 8 || len(x.Pages()) > len(h.rows)+5 {
		t.Errorf("%d rows on %v", len(h.rows), x.Pages())
	}
}

// Addresses that were freed, and the room that their rows left, are used again ahead of new pages.
func TestUsedAgain(t *testing.T) {
	for _, size := range []int{1, 10, 48, 100, 124, 168, 253} {
		_, _, x := fresh(t)
		row := strings.Repeat("r", size)
		h := newHand()
		for range 1000 {
			h.insert(t, x, row)
		}
		before := len(x.Pages())
		c := chance(size)
		l := h.tids(false)
		for range 3000 {
			i := c.below(len(l))
			h.kill(t, x, l[i])
			h.free(t, x, l[i])
			l[i] = h.insert(t, x, row)
		}
		h.same(t, "used again", x)
		if n := len(x.Pages()); n > before {
			t.Errorf("%d bytes: %d pages, and %d at first", size, n, before)
		}
	}
}

// Rows of one length take as few pages as may be, or, if they are short, lose less of each than a twelfth.
func TestFullPages(t *testing.T) {
	for size := 1; size <= 400; size++ {
		_, _, x := fresh(t)
		for range 300 {
			insert(t, x, strings.Repeat("r", size))
		}
		each := 511 / (size + 2) // rows of a page
		if size < 34 {
			each = min(64, (511-511/12)/(size+2))
		}
		if n, want := len(x.Pages()), 1+(300+each-1)/each; n > want {
			t.Errorf("300 rows of %d bytes on %d pages, not %d", size, n, want)
		}
	}
}

// Hp3: heaps of one action know nothing of one another, nor of trees, of pages and roots that are none of a heap's.
func TestApart(t *testing.T) {
	c := chance(31)
	s := open(t, disk.New())
	a := begin(t, s)
	page, _ := a.Alloc()
	a.Write(page, 0, "not a heap's")
	a.SetRoot(7, page)
	tr, _ := tree.New(a, 3)
	hands := make([]*hand, api.MaxRoots)
	heaps := make([]*heap.Heap, api.MaxRoots)
	for k := range hands {
		hands[k], heaps[k] = newHand(), heapAt(t, a, k)
	}
	for n := range 4000 {
		switch k := c.below(api.MaxRoots); k {
		case 3:
			tr.Put(strconv.Itoa(n%100), "v")
			tr.Del(strconv.Itoa(n % 70))
		case 7: // no heap
		default:
			hands[k].step(t, heaps[k], &c, []int{70, 40}[n/2000], sorts[k%len(sorts)].row(&c))
		}
	}
	if !tr.Check() {
		t.Error("the tree: Check")
	}
	if b, e := a.Read(page); b[:12] != "not a heap's" || e != api.OK {
		t.Errorf("a page that is no heap's: %.40q %d", b, e)
	}
	commit(t, a)
	a = begin(t, s)
	tr, _ = tree.New(a, 3)
	used := append(tr.Pages(), page)
	for k, h := range hands {
		if k != 3 && k != 7 {
			x := heapAt(t, a, k)
			h.same(t, strconv.Itoa(k), x)
			used = append(used, x.Pages()...)
		}
	}
	if n, e := a.Root(7); n != page || e != api.OK {
		t.Errorf("a root that is no heap's: %d %d", n, e)
	}
	allUsed(t, "committed", s, used...)
}

// Hp3: what an action does not commit is not there; what it commits is there for whoever opens the disk.
func TestCommitted(t *testing.T) {
	for _, root := range []int{0, 15} {
		c := chance(11)
		d := disk.New()
		s := open(t, d)
		h := newHand()
		for n := range 60 {
			a := begin(t, s)
			x := heapAt(t, a, root)
			h.same(t, "begun", x)
			now := h.clone()
			for range c.below(60) {
				now.step(t, x, &c, 55, sorts[n%len(sorts)].row(&c))
			}
			now.same(t, "changed", x)
			switch c.below(4) {
			case 0:
				abort(t, a)
			case 1: // the power fails
				s = open(t, d)
			case 2:
				commit(t, a)
				h = now
				s = open(t, d)
			default:
				commit(t, a)
				h = now
			}
		}
	}
}

// Hp3: wherever the power fails, the heap is as it was behind some action.
func TestCut(t *testing.T) {
	c := chance(5)
	d := disk.New()
	s := open(t, d)
	h := newHand()
	var behind []*hand // each number of raw writes
	note := func() {
		now := h.clone()
		for len(behind) <= d.Writes() {
			behind = append(behind, now)
		}
	}
	for n := range 40 {
		note()
		a := begin(t, s)
		x := heapAt(t, a, 1)
		next := h.clone()
		for range 10 {
			next.step(t, x, &c, 60, sorts[3].row(&c))
		}
		note() // whatever was written till now is nothing of this action
		h = next
		commit(t, a)
		note()
		if n%7 == 6 {
			s.Checkpoint()
		}
	}
	for n, h := range behind {
		cut, e := d.Cut(n)
		if e != api.OK {
			t.Fatal(e)
		}
		h.same(t, "cut at "+strconv.Itoa(n), heapAt(t, begin(t, open(t, cut)), 1))
	}
}
