package heap_test

import (
	"math"
	"slices"
	"strings"
	"testing"

	"vestibule/api"
	"vestibule/disk"
	"vestibule/heap"
	"vestibule/space"
)

// noRoots are numbers of no root.
var noRoots = []int{-1, 16, 17, math.MinInt, math.MaxInt, -1 << 32, 1 << 32}

// noRows are texts that are no rows.
var noRows = []string{"", strings.Repeat("r", 401), strings.Repeat("\x00", 512), strings.Repeat("r", 513), strings.Repeat("r", 1024), strings.Repeat("r", 70000)}

// noTids are numbers of no address, whatever there is.
var noTids = []int{-1, -64, -65, 0, 1, 63, 4096 * 64, 4097*64 + 1, 1<<24 - 1, 1 << 24, math.MinInt, math.MinInt + 64, math.MaxInt, -1 << 32, 1 << 32}

func open(t *testing.T, d *disk.Disk) *space.Space {
	t.Helper()
	s, e := space.Open(d, 8)
	if e != api.OK {
		t.Fatalf("Open: %d", e)
	}
	return s
}

func begin(t *testing.T, s *space.Space) *space.Action {
	t.Helper()
	a, e := s.Begin()
	if e != api.OK {
		t.Fatalf("Begin: %d", e)
	}
	return a
}

func commit(t *testing.T, a *space.Action) {
	t.Helper()
	if e := a.Commit(); e != api.OK {
		t.Fatalf("Commit: %d", e)
	}
}

func abort(t *testing.T, a *space.Action) {
	t.Helper()
	if e := a.Abort(); e != api.OK {
		t.Fatalf("Abort: %d", e)
	}
}

func heapAt(t *testing.T, a *space.Action, root int) *heap.Heap {
	t.Helper()
	h, e := heap.New(a, root)
	if e != api.OK || h == nil {
		t.Fatalf("New at %d: %v %d", root, h, e)
	}
	return h
}

// fresh is an empty heap at the root 0 of a space, by an action of it.
func fresh(t *testing.T) (*space.Space, *space.Action, *heap.Heap) {
	t.Helper()
	s := open(t, disk.New())
	a := begin(t, s)
	return s, a, heapAt(t, a, 0)
}

// insert puts a row into a heap, and tells its address.
func insert(t *testing.T, h *heap.Heap, row string) int {
	t.Helper()
	tid, e := h.Insert(row)
	if e != api.OK || tid < 64 || tid >= 4096*64 {
		t.Fatalf("Insert of %d bytes: %d %d", len(row), tid, e)
	}
	return tid
}

// inserts puts rows into a heap, and tells their addresses.
func inserts(t *testing.T, h *heap.Heap, rows ...string) []int {
	t.Helper()
	var l []int
	for _, row := range rows {
		l = append(l, insert(t, h, row))
	}
	return l
}

func kill(t *testing.T, h *heap.Heap, tids ...int) {
	t.Helper()
	for _, tid := range tids {
		if e := h.Kill(tid); e != api.OK {
			t.Fatalf("Kill(%d): %d", tid, e)
		}
	}
}

func free(t *testing.T, h *heap.Heap, tids ...int) {
	t.Helper()
	for _, tid := range tids {
		if e := h.Free(tid); e != api.OK {
			t.Fatalf("Free(%d): %d", tid, e)
		}
	}
}

// holds tells where an address does not hold a row, living or dead as it must be.
func holds(t *testing.T, what string, h *heap.Heap, tid int, row string, lives bool) {
	t.Helper()
	if r, l, e := h.Get(tid); r != row || l != lives || e != api.OK {
		t.Errorf("%s: Get(%d): %.40q %t %d, not %.40q %t", what, tid, r, l, e, row, lives)
	}
}

// lacks tells where addresses hold a row, or something can be done with one.
func lacks(t *testing.T, what string, h *heap.Heap, tids ...int) {
	t.Helper()
	for _, tid := range tids {
		row, lives, e := h.Get(tid)
		if f, g := h.Kill(tid), h.Free(tid); row != "" || lives || e != api.ErrNone || f != api.ErrNone || g != api.ErrNone {
			t.Errorf("%s: of %d: Get %.40q %t %d, Kill %d, Free %d", what, tid, row, lives, e, f, g)
		}
	}
}

// are tells where the addresses that hold a row are others, or those of dead ones.
func are(t *testing.T, what string, h *heap.Heap, tids, dead []int) {
	t.Helper()
	if l, d := h.Tids(), h.Dead(); !slices.Equal(l, tids) || !slices.Equal(d, dead) {
		t.Errorf("%s: Tids %v, not %v; Dead %v, not %v", what, l, tids, d, dead)
	}
}

// isEmpty tells where a heap holds a row.
func isEmpty(t *testing.T, what string, h *heap.Heap) {
	t.Helper()
	are(t, what, h, nil, nil)
	lacks(t, what, h, noTids...)
	lacks(t, what, h, 64, 65, 127, 128, 4095*64+63)
	if l := h.Pages(); len(l) > 8 {
		t.Errorf("%s: Pages %v", what, l)
	}
}

// onPage tells where addresses are not all on one page, each one its own.
func onPage(t *testing.T, what string, tids []int) {
	t.Helper()
	l := slices.Sorted(slices.Values(tids))
	if len(slices.Compact(l)) != len(tids) || heap.Page(l[0]) != heap.Page(l[len(l)-1]) {
		t.Errorf("%s: %v", what, tids)
	}
}

// Hp1: at each root stands an empty heap at first.
func TestNew(t *testing.T) {
	s := open(t, disk.New())
	a := begin(t, s)
	for root := range api.MaxRoots {
		isEmpty(t, "new", heapAt(t, a, root))
		if l := heapAt(t, a, root).Pages(); len(l) != 0 {
			t.Errorf("Pages at %d: %v", root, l)
		}
	}
	commit(t, a)
	if n, l := s.Pages(); n != 0 || len(l) != 0 {
		t.Errorf("Pages: %d %v", n, l)
	}
}

// Hp1: what is no action, and what is no root, is refused; then an action that is over is.
func TestNewRefused(t *testing.T) {
	s := open(t, disk.New())
	a := begin(t, s)
	refuses := func(what string, a *space.Action, root int, want api.Errno) {
		t.Helper()
		if h, e := heap.New(a, root); h != nil || e != want {
			t.Errorf("%s: New at %d: %v %d, not %d", what, root, h, e, want)
		}
	}
	for _, root := range noRoots {
		refuses("no root", a, root, api.ErrArg)
	}
	other := *a
	for _, root := range []int{0, 15, 16} {
		refuses("nil", nil, root, api.ErrArg)
		refuses("none that Begin gave", &space.Action{}, root, api.ErrArg)
		refuses("a copy", &other, root, api.ErrArg)
	}
	abort(t, a)
	refuses("over", a, 0, api.ErrOver)
	refuses("over", a, 15, api.ErrOver)
	for _, root := range noRoots {
		refuses("no root, and over", a, root, api.ErrArg)
	}
	a = begin(t, s)
	commit(t, a)
	refuses("committed", a, 0, api.ErrOver)
}

// Hp1: a row has 1 to 400 bytes, of any sort; each one that is put in has an address of its own, and lives there.
func TestInsert(t *testing.T) {
	_, _, h := fresh(t)
	every := make([]byte, 256)
	for i := range every {
		every[i] = byte(i)
	}
	rows := []string{"a", "\x00", "\xff", "a", "", "two rows", string(every), strings.Repeat("\x00", 400), strings.Repeat("\xff", 400), strings.Repeat("x", 399), "a"}
	rows[4] = strings.Repeat("\x00", 63)
	tids := inserts(t, h, rows...)
	for i, tid := range tids {
		holds(t, "inserted", h, tid, rows[i], true)
	}
	are(t, "inserted", h, slices.Compact(slices.Sorted(slices.Values(tids))), nil)
	if n := len(h.Tids()); n != len(rows) {
		t.Errorf("%d addresses of %d rows", n, len(rows))
	}
}

// Hp1: what is no row is refused.
func TestInsertRefused(t *testing.T) {
	_, _, h := fresh(t)
	for range 2 {
		before := h.Tids()
		for _, row := range noRows {
			if tid, e := h.Insert(row); tid != 0 || e != api.ErrRow {
				t.Errorf("Insert of %d bytes: %d %d", len(row), tid, e)
			}
		}
		are(t, "refused", h, before, nil)
		insert(t, h, strings.Repeat("r", 400))
	}
}

// Hp1: the first rows of an empty heap stand on one page, as long as they have at most 100 bytes together: no more than
// there are places.
func TestFirstRows(t *testing.T) {
	var all [][]string
	for n := 1; n <= 100; n++ { // as many rows of one length as may be
		all = append(all, slices.Repeat([]string{strings.Repeat("r", n)}, min(100/n, 64)))
	}
	for n := 1; n < 64; n++ { // one long row, ahead of short ones or behind
		long, short := strings.Repeat("r", 100-n), slices.Repeat([]string{"s"}, n)
		all = append(all, append([]string{long}, short...), append(short[:n:n], long))
	}
	all = append(all, append(slices.Repeat([]string{"s"}, 28), slices.Repeat([]string{"rr"}, 36)...))
	for i, rows := range all {
		s, a, h := fresh(t)
		beside := heapAt(t, a, 1)
		if i%3 > 0 {
			inserts(t, beside, "beside", strings.Repeat("b", 400))
		}
		onPage(t, "first rows", inserts(t, h, rows...))
		tids := inserts(t, h, strings.Repeat("x", 400), strings.Repeat("y", 200), strings.Repeat("z", 400))
		commit(t, a)
		a = begin(t, s)
		h = heapAt(t, a, 0)
		kill(t, h, tids...)
		for _, tid := range h.Tids() {
			h.Kill(tid)
			free(t, h, tid)
		}
		isEmpty(t, "emptied", h)
		onPage(t, "first rows of one that was emptied", inserts(t, h, rows...))
	}
}

// Hp1: what lives may be killed, what is dead may be freed, and nothing else.
func TestKillAndFree(t *testing.T) {
	_, _, h := fresh(t)
	l := inserts(t, h, "one", "two", "three", strings.Repeat("4", 400))
	all := slices.Sorted(slices.Values(l))
	unfreed := func(what string, tid int) {
		t.Helper()
		if e := h.Free(tid); e != api.ErrNone {
			t.Errorf("%s: Free: %d", what, e)
		}
	}
	unfreed("it lives", l[1])
	holds(t, "it lives", h, l[1], "two", true)
	kill(t, h, l[1], l[3])
	for range 2 {
		if e := h.Kill(l[1]); e != api.ErrNone {
			t.Errorf("Kill of a dead one: %d", e)
		}
		holds(t, "dead", h, l[1], "two", false)
		holds(t, "dead", h, l[3], strings.Repeat("4", 400), false)
		holds(t, "beside it", h, l[0], "one", true)
		unfreed("beside it", l[2])
		are(t, "dead", h, all, slices.Sorted(slices.Values([]int{l[1], l[3]})))
	}
	free(t, h, l[1])
	lacks(t, "freed", h, l[1])
	holds(t, "another one", h, l[3], strings.Repeat("4", 400), false)
	holds(t, "beside it", h, l[0], "one", true)
	holds(t, "beside it", h, l[2], "three", true)
	all = slices.DeleteFunc(all, func(tid int) bool { return tid == l[1] })
	are(t, "freed", h, all, []int{l[3]})
	free(t, h, l[3])
	lacks(t, "freed", h, l[1], l[3])
	kill(t, h, l[0], l[2])
	free(t, h, l[0], l[2])
	isEmpty(t, "all freed", h)
	lacks(t, "all freed", h, l...)
}

// Hp1: of an address that holds no row nothing is told: of no address, of another place, of a page that is free, or is
// another one's, whatever stands there.
func TestNone(t *testing.T) {
	_, a, h := fresh(t)
	other := heapAt(t, a, 1)
	mine := inserts(t, h, "mine", strings.Repeat("m", 400), strings.Repeat("m", 300))
	others := inserts(t, other, "other", strings.Repeat("o", 400), strings.Repeat("o", 300))
	copied, _ := a.Alloc()
	b, _ := a.Read(heap.Page(mine[0]))
	a.Write(copied, 0, b)
	freed := insert(t, h, strings.Repeat("f", 400))
	kill(t, h, freed)
	free(t, h, freed)
	for range 2 {
		lacks(t, "no address", h, noTids...)
		lacks(t, "another heap's", h, others...)
		lacks(t, "the heap's, asked of another one", other, mine...)
		lacks(t, "a page as the heap's", h, copied*64+mine[0]%64)
		lacks(t, "freed", h, freed)
		for _, page := range append(h.Pages(), other.Pages()...) {
			for at := range 64 {
				if tid := page*64 + at; !slices.Contains(mine, tid) {
					lacks(t, "another place", h, tid)
				}
			}
		}
		for _, tid := range mine {
			lacks(t, "beyond", h, tid+1<<18, tid+1<<24, tid+1<<32, -tid, tid-1<<18)
		}
	}
	are(t, "behind it", h, slices.Sorted(slices.Values(mine)), nil)
	are(t, "behind it", other, slices.Sorted(slices.Values(others)), nil)
}

// Hp1, Hp3: a row's address is not given again while it holds the row, be it dead.
func TestDeadKeepsItsAddress(t *testing.T) {
	_, _, h := fresh(t)
	for _, size := range []int{1, 30, 100, 400} {
		row := strings.Repeat("d", size)
		dead := inserts(t, h, slices.Repeat([]string{row}, 150)...)
		kill(t, h, dead...)
		for range 300 {
			if tid := insert(t, h, strings.Repeat("l", size)); slices.Contains(dead, tid) {
				t.Fatalf("%d bytes: %d is given again", size, tid)
			}
		}
		for _, tid := range dead {
			holds(t, "dead", h, tid, row, false)
		}
	}
}

// refuse tells where a call is not refused by an error, or, where it answers none, by nothing.
func refuse(t *testing.T, what string, h *heap.Heap, want api.Errno) {
	t.Helper()
	for _, row := range append([]string{"a"}, noRows...) {
		if tid, e := h.Insert(row); tid != 0 || e != want {
			t.Errorf("%s: Insert of %d bytes: %d %d", what, len(row), tid, e)
		}
	}
	for _, tid := range append([]int{64, 65, 128, 129, 192}, noTids...) {
		row, lives, e := h.Get(tid)
		if f, g := h.Kill(tid), h.Free(tid); row != "" || lives || e != want || f != want || g != want {
			t.Errorf("%s: of %d: Get %.40q %t %d, Kill %d, Free %d", what, tid, row, lives, e, f, g)
		}
	}
	are(t, what, h, nil, nil)
	if l := h.Pages(); len(l) != 0 {
		t.Errorf("%s: Pages %v", what, l)
	}
}

// Hp1: of a heap whose action is over nothing is told.
func TestOver(t *testing.T) {
	s, a, h := fresh(t)
	l := inserts(t, h, "a", "b")
	kill(t, h, l[1])
	commit(t, a)
	refuse(t, "committed", h, api.ErrOver)
	b := begin(t, s)
	refuse(t, "another action goes on", h, api.ErrOver)
	again, beside := heapAt(t, b, 0), heapAt(t, b, 9)
	holds(t, "another action", again, l[0], "a", true)
	holds(t, "another action", again, l[1], "b", false)
	abort(t, b)
	refuse(t, "aborted", again, api.ErrOver)
	refuse(t, "aborted, empty", beside, api.ErrOver)
}

// R1: a heap that New did not give is none.
func TestNoHeap(t *testing.T) {
	_, a, h := fresh(t)
	l := inserts(t, h, "a", "b")
	other := *h
	refuse(t, "nil", nil, api.ErrArg)
	refuse(t, "none that New gave", &heap.Heap{}, api.ErrArg)
	refuse(t, "a copy", &other, api.ErrArg)
	are(t, "behind it", h, l, nil)
	abort(t, a)
	refuse(t, "a copy, and over", &other, api.ErrArg)
}

// R4: two heaps of one root are one.
func TestSameRoot(t *testing.T) {
	_, a, h := fresh(t)
	other := heapAt(t, a, 0)
	var l []int
	for i := range 90 {
		l = append(l, insert(t, []*heap.Heap{h, other}[i%2], strings.Repeat("r", 50+i)))
	}
	for i, tid := range l {
		x, y := []*heap.Heap{other, h}[i%2], []*heap.Heap{h, other}[i/2%2]
		holds(t, "by the other", x, tid, strings.Repeat("r", 50+i), true)
		kill(t, x, tid)
		holds(t, "killed", y, tid, strings.Repeat("r", 50+i), false)
		if i%4 < 2 {
			free(t, y, tid)
			lacks(t, "freed", x, tid)
		}
	}
	if !slices.Equal(h.Tids(), other.Tids()) || !slices.Equal(h.Dead(), other.Dead()) || !slices.Equal(h.Pages(), other.Pages()) || len(h.Dead()) != 44 {
		t.Errorf("%v and %v", h.Tids(), other.Tids())
	}
}

// R3: what was answered is not changed by what comes behind, nor does it change that.
func TestAnswersAreNew(t *testing.T) {
	_, _, h := fresh(t)
	kill(t, h, inserts(t, h, slices.Repeat([]string{strings.Repeat("r", 60)}, 40)...)...)
	for what, call := range map[string]func() []int{"Tids": h.Tids, "Dead": h.Dead, "Pages": h.Pages} {
		l, again := call(), call()
		kept := slices.Clone(l)
		again = again[:cap(again)]
		for i := range again {
			again[i] = -1
		}
		if !slices.Equal(l, kept) || !slices.Equal(call(), kept) {
			t.Errorf("%s shares memory", what)
		}
	}
}

// The chapter's example.
func TestExample(t *testing.T) {
	_, _, h := fresh(t)
	a := insert(t, h, "a")
	kill(t, h, a)
	if b := insert(t, h, "b"); b == a {
		t.Errorf("Insert: %d again", b)
	}
	free(t, h, a)
	again := 0
	for range 63 {
		if insert(t, h, "c") == a {
			again++
		}
	}
	if again != 1 {
		t.Errorf("%d was given %d times", a, again)
	}
}
