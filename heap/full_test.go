package heap_test

import (
	"slices"
	"strings"
	"testing"

	"vestibule/api"
	"vestibule/heap"
	"vestibule/space"
)

// fill takes all pages that are left, and tells them.
func fill(t *testing.T, a *space.Action) []int {
	t.Helper()
	var l []int
	for {
		page, e := a.Alloc()
		if e == api.ErrFull {
			return l
		}
		if e != api.OK {
			t.Fatalf("Alloc: %d", e)
		}
		l = append(l, page)
	}
}

// full tells where a row can be put in, or is refused otherwise than for lack of a page.
func full(t *testing.T, what string, x *heap.Heap, row string) {
	t.Helper()
	if tid, e := x.Insert(row); tid != 0 || e != api.ErrFull {
		t.Fatalf("%s: Insert of %d bytes: %d %d", what, len(row), tid, e)
	}
}

// Hp1: where no page is left, what needs one is refused, and leaves no trace; what needs none is done.
func TestInsertFull(t *testing.T) {
	for i, sort := range sorts {
		c := chance(i + 3)
		s, a, x := fresh(t)
		beside := heapAt(t, a, 1)
		l := inserts(t, beside, "a", "b")
		h := newHand()
		for range 300 {
			h.step(t, x, &c, 80, sort.row(&c))
		}
		commit(t, a)
		a = begin(t, s)
		x, beside = heapAt(t, a, 0), heapAt(t, a, 1)
		before := h.clone()
		filled := fill(t, a)
		for tid, e := x.Insert(strings.Repeat("z", 400)); e == api.OK; tid, e = x.Insert(strings.Repeat("z", 400)) {
			h.rows[tid] = entry{strings.Repeat("z", 400), false} // a page had room for it
		}
		for size := 400; size > 0; size-- { // ever shorter ones, as long as there is room for them
			for tid, e := x.Insert(strings.Repeat("z", size)); e != api.ErrFull; tid, e = x.Insert(strings.Repeat("z", size)) {
				if e != api.OK {
					t.Fatalf("Insert: %d", e)
				}
				h.rows[tid] = entry{strings.Repeat("z", size), false}
			}
		}
		h.most = len(h.rows)
		full(t, sort.name, x, "z")
		full(t, sort.name, x, strings.Repeat("z", 400))
		for _, row := range noRows {
			if tid, e := x.Insert(row); tid != 0 || e != api.ErrRow {
				t.Errorf("%s: Insert of no row: %d %d", sort.name, tid, e)
			}
		}
		h.same(t, sort.name, x)
		holds(t, sort.name, beside, l[0], "a", true)
		if n := len(x.Pages()) + len(beside.Pages()) + len(filled); n != 4095 || len(fill(t, a)) != 0 {
			t.Errorf("%s: %d pages", sort.name, n)
		}
		tid := h.tids(false)[len(h.rows)/2]
		x.Kill(tid)
		full(t, "it is dead", x, h.rows[tid].row)
		h.free(t, x, tid)
		abort(t, a)
		a = begin(t, s)
		before.same(t, "aborted", heapAt(t, a, 0))
	}
}

// Hp1: where no page is left, a row that was freed gives room to another one that is as long.
func TestFreeFull(t *testing.T) {
	for _, size := range []int{1, 5, 35, 60, 100, 168, 253, 400} {
		_, a, x := fresh(t)
		row := strings.Repeat("r", size)
		l := inserts(t, x, slices.Repeat([]string{row}, 200)...)
		fill(t, a)
		for tid, e := x.Insert(row); e == api.OK; tid, e = x.Insert(row) {
			l = append(l, tid)
		}
		for i := range 100 {
			tid := l[i*7%len(l)]
			kill(t, x, tid)
			full(t, "dead", x, row)
			free(t, x, tid)
			if again := insert(t, x, row); slices.Contains(x.Dead(), again) {
				t.Errorf("%d bytes: %d is dead", size, again)
			}
			full(t, "full again", x, row)
		}
		if n := len(x.Tids()); n != len(l) {
			t.Errorf("%d bytes: %d rows, not %d", size, n, len(l))
		}
	}
}

// Hp1: where no page is left, a row finds the room that there is, be it on the last one of many pages that have almost as
// much.
func TestLastRoom(t *testing.T) {
	_, a, x := fresh(t)
	inserts(t, x, slices.Repeat([]string{strings.Repeat("r", 400)}, 30)...)
	last := insert(t, x, strings.Repeat("r", 379)) // it leaves 21 bytes more
	inserts(t, x, slices.Repeat([]string{strings.Repeat("r", 400)}, 30)...)
	fill(t, a)
	full(t, "no such room", x, strings.Repeat("s", 129))
	if tid := insert(t, x, strings.Repeat("s", 128)); heap.Page(tid) != heap.Page(last) {
		t.Errorf("%d, not on the page of %d", tid, last)
	}
	full(t, "no such room any more", x, strings.Repeat("s", 128))
}

// Hp1: an empty heap needs pages for its first row; one that is refused gives back what it took.
func TestFirstFull(t *testing.T) {
	for _, from := range []int{0, 100, 1000, 1020, 2030, 3030, 4035, 4090} {
		_, a, x := fresh(t)
		filled := fill(t, a)
		for n := range 6 {
			tid, e := x.Insert("row")
			pages := x.Pages()
			if e == api.OK {
				if n == 0 || n > 3 || !slices.Contains(pages, heap.Page(tid)) || len(pages) > n {
					t.Fatalf("from %d: Insert with %d pages: %d, on %v", from, n, tid, pages)
				}
				holds(t, "first", x, tid, "row", true)
				break
			}
			if e != api.ErrFull || len(pages) != 0 {
				t.Fatalf("from %d: Insert with %d pages: %d, on %v", from, n, e, pages)
			}
			isEmpty(t, "refused", x)
			if l := fill(t, a); len(l) != n {
				t.Fatalf("from %d: %v are free, of %d", from, l, n)
			}
			for _, page := range filled[from : from+n+1] {
				a.Free(page)
			}
		}
		if len(x.Tids()) != 1 {
			t.Errorf("from %d: never inserted", from)
		}
	}
}

// Hp1, Hp3: a heap fills all pages that there are, and each row is found.
func TestFillAll(t *testing.T) {
	for _, size := range []int{90, 168, 253, 400} {
		s, a, x := fresh(t)
		var l []int
		for {
			if len(l)%1000 == 999 {
				commit(t, a)
				a = begin(t, s)
				x = heapAt(t, a, 0)
			}
			tid, e := x.Insert(strings.Repeat(string(rune('a'+len(l)%26)), size))
			if e == api.ErrFull {
				break
			}
			l = append(l, tid)
		}
		each := 510 / (size + 2)
		if n := len(x.Pages()); len(l) < 4090*each || n != 4095 || len(x.Tids()) != len(l) {
			t.Errorf("%d rows of %d bytes, of which %d are held, on %d pages", len(l), size, len(x.Tids()), n)
		}
		for i, tid := range l {
			holds(t, "full", x, tid, strings.Repeat(string(rune('a'+i%26)), size), true)
		}
		kill(t, x, l...)
		commit(t, a)
		a = begin(t, s)
		x = heapAt(t, a, 0)
		free(t, x, l...)
		isEmpty(t, "all freed", x)
		abort(t, a)
	}
}
