package tree_test

import (
	"maps"
	"slices"
	"strconv"
	"strings"
	"testing"

	"vestibule/api"
	"vestibule/disk"
	"vestibule/space"
	"vestibule/tree"
)

// chance is numbers of all sorts, the same ones in each run.
type chance uint32

func (c *chance) below(n int) int {
	*c = *c*1664525 + 1013904223
	return int(*c>>8) % n
}

// text is a text of letters, of which there are so many.
func (c *chance) text(length, letters int) string {
	b := make([]byte, length)
	for i := range b {
		b[i] = byte('a' + c.below(letters))
	}
	return string(b)
}

// mixed is a list in another order.
func (c *chance) mixed(l []string) []string {
	l = slices.Clone(l)
	for i := range l {
		j := i + c.below(len(l)-i)
		l[i], l[j] = l[j], l[i]
	}
	return l
}

// long are so many keys, rising, that are as long as may be, and differ only near their ends.
func long(n int) []string {
	l := make([]string, n)
	for i := range l {
		l[i] = strings.Repeat("k", 92) + strconv.Itoa(1000+i)
	}
	return l
}

// hand is keys with values, in hand.
type hand map[string]string

func (h hand) keys() []string { return slices.Sorted(maps.Keys(h)) }

// same tells where a tree is not as a hand.
func (h hand) same(t *testing.T, what string, tr *tree.Tree) {
	t.Helper()
	if !tr.Check() || tr.Len() != len(h) {
		t.Fatalf("%s: Check %t, %d keys, not %d", what, tr.Check(), tr.Len(), len(h))
	}
	h.onPages(t, what, tr)
	item, ok := tr.From("")
	for _, key := range h.keys() {
		finds(t, what+": forth", item, ok, api.Item{Key: key, Value: h[key]})
		holds(t, what, tr, key, h[key])
		item, ok = tr.Next(item.Key)
	}
	none(t, what+": forth", item, ok)
	item, ok = tr.Last()
	for _, key := range slices.Backward(h.keys()) {
		finds(t, what+": back", item, ok, api.Item{Key: key, Value: h[key]})
		item, ok = tr.Prev(item.Key)
	}
	none(t, what+": back", item, ok)
	if t.Failed() {
		t.FailNow()
	}
}

// onPages tells where a tree stands on more pages than it may, or Pages does not tell them as it must.
func (h hand) onPages(t *testing.T, what string, tr *tree.Tree) {
	t.Helper()
	pages := tr.Pages()
	if len(pages) > 2*len(h)+8 || (len(h) == 0) != (len(pages) == 0) {
		t.Fatalf("%s: %d keys on %d pages", what, len(h), len(pages))
	}
	for i, page := range pages {
		if page < 1 || page > 4095 || i > 0 && pages[i-1] >= page {
			t.Fatalf("%s: Pages: %v", what, pages)
		}
	}
}

// about tells where the keys about a text are not those in hand.
func (h hand) about(t *testing.T, tr *tree.Tree, text string) {
	t.Helper()
	keys := h.keys()
	at, exact := slices.BinarySearch(keys, text)
	check := func(what string, got api.Item, ok bool, at int) {
		t.Helper()
		if at < 0 || at >= len(keys) {
			none(t, what, got, ok)
		} else {
			finds(t, what, got, ok, api.Item{Key: keys[at], Value: h[keys[at]]})
		}
	}
	item, ok := tr.From(text)
	check("From", item, ok, at)
	item, ok = tr.Prev(text)
	check("Prev", item, ok, at-1)
	if exact {
		at++
	}
	item, ok = tr.Next(text)
	check("Next", item, ok, at)
}

// step puts a key, or takes one out; of a hundred steps so many put.
func (h hand) step(t *testing.T, tr *tree.Tree, c *chance, puts int, key string) {
	t.Helper()
	_, held := h[key]
	if c.below(100) < puts {
		value := c.text(c.below(33), 26)
		put(t, tr, key, value, !held)
		h[key] = value
		return
	}
	if l := h.keys(); len(l) > 0 && c.below(4) > 0 {
		key = l[c.below(len(l))]
	} else if !held {
		lacks(t, "not held", tr, key)
		return
	}
	del(t, tr, key)
	delete(h, key)
}

// allUsed tells where a page is neither free nor one of these trees'.
func allUsed(t *testing.T, what string, s *space.Space, trees ...*tree.Tree) {
	t.Helper()
	count, all := s.Pages()
	for _, tr := range trees {
		all = append(all, tr.Pages()...)
	}
	slices.Sort(all)
	for i := range count {
		if len(all) != count || all[i] != i+1 {
			t.Fatalf("%s: %d pages, not each once: %v", what, count, all)
		}
	}
}

// The sorts of keys.
var sorts = []struct {
	name string
	key  func(c *chance) string
}{
	{"short", func(c *chance) string { return c.text(1+c.below(3), 4) }},
	{"numbers", func(c *chance) string { return strconv.Itoa(100000 + c.below(2000)) }},
	{"longest", func(c *chance) string { return strings.Repeat("k", 93) + c.text(3, 6) }},
	{"all lengths", func(c *chance) string { return c.text(1+c.below(96), 2) }},
	{"one letter", func(c *chance) string { return c.text(1+c.below(96), 1) }},
	{"long and short", func(c *chance) string { return c.text(1+c.below(2)*95, 26) }},
}

// Te1, Te2, Te3: whatever is put and taken out, the tree is as keys in hand, and its pages are few, and all that are not
// free.
func TestWork(t *testing.T) {
	for i, sort := range sorts {
		c := chance(i + 1)
		s, a, tr := fresh(t)
		h := hand{}
		for n := range 2000 {
			puts := []int{80, 20, 60, 10}[n/500]
			key := sort.key(&c)
			h.step(t, tr, &c, puts, key)
			h.about(t, tr, sort.key(&c))
			h.onPages(t, sort.name, tr)
			tight(t, sort.name, a)
			if n%97 == 0 {
				h.same(t, sort.name, tr)
				commit(t, a)
				a = begin(t, s)
				tr = treeAt(t, a, 0)
				allUsed(t, sort.name, s, tr)
			}
		}
		h.same(t, sort.name, tr)
		for _, key := range c.mixed(h.keys()) {
			del(t, tr, key)
			delete(h, key)
			h.onPages(t, sort.name, tr)
			if !tr.Check() {
				t.Fatalf("%s: Check, %d keys left", sort.name, len(h))
			}
		}
		isEmpty(t, sort.name, tr)
		commit(t, a)
		allUsed(t, sort.name, s)
	}
}

// Te3: many keys that are as long as may be, put and taken out in one order or another, with few left at the end.
func TestManyLongKeys(t *testing.T) {
	c := chance(5)
	keys := long(1500)
	back := slices.Clone(keys)
	slices.Reverse(back)
	orders := [][]string{keys, back, c.mixed(keys)}
	for i, order := range orders {
		for j, away := range orders {
			what := strconv.Itoa(i) + " " + strconv.Itoa(j)
			s, a, tr := fresh(t)
			h := hand{}
			for _, key := range order {
				h[key] = strings.Repeat("v", 32)
				put(t, tr, key, h[key], true)
			}
			h.same(t, what, tr)
			for n, key := range away {
				if n%(20*(j+1)) == 0 { // some are left, here and there
					continue
				}
				del(t, tr, key)
				delete(h, key)
				if n%37 == 0 || n > 1400 {
					h.onPages(t, what, tr)
					tight(t, what, a)
				}
			}
			h.same(t, what, tr)
			commit(t, a)
			a = begin(t, s)
			allUsed(t, what, s, treeAt(t, a, 0))
		}
	}
}

// Te3: keys that are long beside some that are short, in a tree of several levels, out of which a stretch is taken: above
// what is left stand keys that may not grow, and what is taken out needs no page.
func TestStretches(t *testing.T) {
	for round := range 6 {
		c := chance(round + 70)
		_, a, tr := fresh(t)
		h := hand{}
		for i := range 600 {
			key := strconv.Itoa(1000 + i)
			if c.below(3) > 0 {
				key += strings.Repeat("k", 60+c.below(33))
			}
			h[key] = strings.Repeat("v", 20)
			put(t, tr, key, h[key], true)
		}
		fill(t, a)
		for len(h) > 0 {
			keys := h.keys()
			from := c.below(len(keys))
			for _, key := range keys[from:min(from+1+c.below(60), len(keys))] {
				del(t, tr, key)
				delete(h, key)
				h.onPages(t, "stretches", tr)
				tight(t, "stretches", a)
			}
			h.same(t, "stretches", tr)
		}
		isEmpty(t, "stretches", tr)
	}
}

// fill takes all pages that are left, and tells them.
func fill(t *testing.T, a *space.Action) []int {
	t.Helper()
	var l []int
	for {
		page, e := a.Alloc()
		if e == api.ErrFull {
			return l
		}
		if e != api.OK {
			t.Fatalf("Alloc: %d", e)
		}
		l = append(l, page)
	}
}

// Te3: trees of one action know nothing of one another, nor of pages and roots that are none of a tree's.
func TestApart(t *testing.T) {
	c := chance(31)
	s := open(t, disk.New())
	a := begin(t, s)
	page, _ := a.Alloc()
	a.Write(page, 0, "not a tree's")
	a.SetRoot(7, page)
	hands := make([]hand, api.MaxRoots)
	trees := make([]*tree.Tree, api.MaxRoots)
	for k := range hands {
		hands[k], trees[k] = hand{}, treeAt(t, a, k)
	}
	for n := range 4000 {
		if k := c.below(api.MaxRoots); k != 7 {
			hands[k].step(t, trees[k], &c, []int{70, 40}[n/2000], sorts[k%len(sorts)].key(&c))
		}
	}
	if e := trees[3].Drop(); e != api.OK {
		t.Error(e)
	}
	hands[3] = hand{}
	trees = slices.Delete(trees, 7, 8)
	hands = slices.Delete(hands, 7, 8)
	for k, h := range hands {
		h.same(t, strconv.Itoa(k), trees[k])
	}
	if b, e := a.Read(page); b[:12] != "not a tree's" || e != api.OK {
		t.Errorf("a page that is no tree's: %.40q %d", b, e)
	}
	if n, e := a.Root(7); n != page || e != api.OK {
		t.Errorf("a root that is no tree's: %d %d", n, e)
	}
	if e := a.Free(page); e != api.OK {
		t.Error(e)
	}
	commit(t, a)
	a = begin(t, s)
	var again []*tree.Tree
	for k := range api.MaxRoots {
		if k != 7 {
			again = append(again, treeAt(t, a, k))
		}
	}
	for k, h := range hands {
		h.same(t, "committed "+strconv.Itoa(k), again[k])
	}
	allUsed(t, "committed", s, again...)
}

// Te3: what an action does not commit is not there; what it commits is there for whoever opens the disk.
func TestCommitted(t *testing.T) {
	c := chance(11)
	d := disk.New()
	s := open(t, d)
	h := hand{}
	for n := range 40 {
		a := begin(t, s)
		tr := treeAt(t, a, 3)
		h.same(t, "begun", tr)
		now := maps.Clone(h)
		for range c.below(60) {
			now.step(t, tr, &c, 60, sorts[2].key(&c))
		}
		now.same(t, "changed", tr)
		if n%9 == 8 {
			tr.Drop()
			now = hand{}
		}
		switch c.below(4) {
		case 0:
			abort(t, a)
		case 1: // the power fails
			s = open(t, d)
		case 2:
			commit(t, a)
			h = now
			s = open(t, d)
		default:
			commit(t, a)
			h = now
		}
	}
}

// Te2: the pages are those that the tree took of the space and did not free.
func TestPages(t *testing.T) {
	c := chance(77)
	s, a, tr := fresh(t)
	before := 0
	for range 30 {
		for range 40 {
			key := sorts[3].key(&c)
			if _, e := tr.Get(key); e == api.OK {
				del(t, tr, key)
			} else {
				puts(t, tr, key)
			}
		}
		commit(t, a)
		a = begin(t, s)
		tr = treeAt(t, a, 0)
		n, free := s.Pages()
		pages := tr.Pages()
		if len(pages) != n-len(free) {
			t.Fatalf("%d pages of %d, %d free", len(pages), n, len(free))
		}
		for _, page := range pages {
			if _, e := a.Read(page); e != api.OK {
				t.Fatalf("Read(%d): %d", page, e)
			}
		}
		before = max(before, len(pages))
	}
	if before < 20 {
		t.Errorf("%d pages at most", before)
	}
}
