package tree_test

import (
	"maps"
	"slices"
	"strconv"
	"strings"
	"testing"

	"vestibule/api"
)

// Te1: where no page is left, what needs one is refused; nothing is lost, and the trees beside it know nothing of it.
func TestPutFull(t *testing.T) {
	for round := range 30 {
		c := chance(round + 3)
		s, a, tr := fresh(t)
		beside := treeAt(t, a, 1)
		puts(t, beside, "a", "b")
		h := hand{}
		for range 200 {
			h.step(t, tr, &c, 90, sorts[round%len(sorts)].key(&c))
		}
		filled := fill(t, a)
		commit(t, a)
		a = begin(t, s)
		tr, beside = treeAt(t, a, 0), treeAt(t, a, 1)
		for _, page := range filled[:round%4] { // a change may lack its second page, or its third one
			a.Free(page)
		}
		before := maps.Clone(h)
		n := 0
		for ; n < 5000; n++ {
			key := strings.Repeat("k", 90) + c.text(6, 26) // little but such keys stands above, too
			isNew, e := tr.Put(key, "v")
			if e == api.ErrFull && !isNew {
				break
			}
			if !isNew || e != api.OK {
				t.Fatalf("Put: %t %d", isNew, e)
			}
			h[key] = "v"
		}
		if n == 5000 {
			t.Fatal("never full")
		}
		hand{"a": "a", "b": "b"}.same(t, "beside a full one", beside)
		h.same(t, "full", tr)
		if n := len(tr.Pages()) + len(beside.Pages()) + len(filled) - round%4 + len(fill(t, a)); n != 4095 {
			t.Errorf("%d pages, 4095 with those that the refused one took", n)
		}
		abort(t, a)
		a = begin(t, s)
		before.same(t, "aborted", treeAt(t, a, 0))
	}
}

// Te1: a tree without keys needs a page for its first one.
func TestPutFullFirst(t *testing.T) {
	_, a, tr := fresh(t)
	filled := fill(t, a)
	for range 2 {
		if isNew, e := tr.Put("a", "b"); isNew || e != api.ErrFull {
			t.Errorf("Put: %t %d", isNew, e)
		}
		if isNew, e := tr.Put("", "b"); isNew || e != api.ErrArg {
			t.Errorf("Put of no key: %t %d", isNew, e)
		}
	}
	isEmpty(t, "full", tr)
	if e := a.Free(filled[100]); e != api.OK {
		t.Fatal(e)
	}
	put(t, tr, "a", "b", true)
	hand{"a": "b"}.same(t, "a page was freed", tr)
	if l := tr.Pages(); !slices.Equal(l, []int{filled[100]}) {
		t.Errorf("Pages: %v", l)
	}
}

// Te1, Te3: where no page is left, what needs none is done: each key is taken out, and values become others.
func TestDelFull(t *testing.T) {
	for round := range 6 {
		c := chance(round + 50)
		_, a, tr := fresh(t)
		h := hand{}
		for range 700 {
			h.step(t, tr, &c, 95, sorts[round].key(&c))
		}
		fill(t, a)
		for i, key := range h.keys() {
			h[key] = h[key][:len(h[key])/2]
			put(t, tr, key, h[key], false)
			if i%50 == 0 {
				h.same(t, "shorter values", tr)
			}
		}
		fill(t, a) // pages may have been freed
		for i, key := range c.mixed(h.keys()) {
			del(t, tr, key)
			delete(h, key)
			if i%50 == 0 {
				h.same(t, "full", tr)
			}
		}
		isEmpty(t, "full", tr)
	}
}

// Te1: a tree fills all pages that there are.
func TestFillAll(t *testing.T) {
	s, a, tr := fresh(t)
	n := 0
	for ; ; n++ {
		if n%1000 == 999 {
			commit(t, a)
			a = begin(t, s)
			tr = treeAt(t, a, 0)
		}
		key := strconv.Itoa(1000000 + n)
		if _, e := tr.Put(key+key+key, key); e == api.ErrFull {
			break
		}
	}
	if n < 4095*6 || tr.Len() != n || !tr.Check() || len(tr.Pages()) < 4090 {
		t.Errorf("%d keys, of which %d are held, on %d pages", n, tr.Len(), len(tr.Pages()))
	}
}
