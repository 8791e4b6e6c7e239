package bitmapix_test

import (
	"math"
	"slices"
	"testing"
	"unsafe"

	"vestibule/api"
	"vestibule/bitmapix"
	"vestibule/disk"
	"vestibule/method"
	"vestibule/space"
)

// It is a method that counts, and its calls are as the document writes them.
var (
	_ method.Method                                              = (*bitmapix.Bitmap)(nil)
	_ method.Counted                                             = (*bitmapix.Bitmap)(nil)
	_ func(a *space.Action, r int) (*bitmapix.Bitmap, api.Errno) = bitmapix.New
	_ func(x *bitmapix.Bitmap, key api.Datum) ([]int, api.Errno) = (*bitmapix.Bitmap).Find
	_ func(x *bitmapix.Bitmap, e api.Entry) api.Errno            = (*bitmapix.Bitmap).Insert
	_ func(x *bitmapix.Bitmap) (keys []api.Datum, numbers []int) = (*bitmapix.Bitmap).Counts
)

// The example of the chapter.
func TestExample(t *testing.T) {
	x := with(t, entry(integer(1), 0), entry(integer(1), 300), entry(integer(2), 0))
	finds(t, x, integer(1), 0, 300)
	keys, numbers := x.Counts()
	if !slices.EqualFunc(keys, []api.Datum{integer(1), integer(2)}, sameDatum) || !slices.Equal(numbers, []int{2, 1}) {
		t.Error(keys, numbers)
	}
}

// Bm1: what it can besides.
func TestAbilities(t *testing.T) {
	if l := method.Abilities(with(t)); !slices.Equal(l, []string{"counted"}) {
		t.Error(l)
	}
}

// Bm1: which roots and actions may be; an action that is over is told behind a root that may not be.
func TestNewRefuses(t *testing.T) {
	s := open(t, disk.New())
	a := begin(t, s)
	refused := func(a *space.Action, root int, want api.Errno) {
		t.Helper()
		if x, e := bitmapix.New(a, root); x != nil || e != want {
			t.Errorf("New at %d: %v %d, not %d", root, x, e, want)
		}
	}
	copied := *a
	noRoots := []int{-1, api.MaxRoots, api.MaxRoots + 1, math.MinInt, math.MaxInt, -1 << 32, 1 << 32}
	for _, root := range append([]int{0, 5, api.MaxRoots - 1}, noRoots...) {
		for _, none := range []*space.Action{nil, {}, &copied} {
			refused(none, root, api.ErrArg)
		}
	}
	for _, root := range noRoots {
		refused(a, root, api.ErrArg)
	}
	answers(t, a.Commit(), api.OK)
	for _, root := range noRoots {
		refused(a, root, api.ErrArg)
	}
	for root := range api.MaxRoots {
		refused(a, root, api.ErrOver)
	}
}

// Bm1: at each root an empty one stands at first, on no pages, and as it must.
func TestBegins(t *testing.T) {
	s := open(t, disk.New())
	a := begin(t, s)
	for root := range api.MaxRoots {
		x := at(t, a, root)
		holds(t, x)
		for _, key := range rising() {
			finds(t, x, key)
			answers(t, x.Delete(entry(key, 0)), api.ErrNone)
		}
		if l := x.Pages(); len(l) != 0 {
			t.Error(l)
		}
	}
	answers(t, a.Commit(), api.OK)
	allUsed(t, s)
}

// Am1: each entry is once; one key may have many addresses, and one address many keys.
func TestInsertDelete(t *testing.T) {
	x := with(t, entry(integer(1), 7), entry(integer(2), 7), entry(integer(1), 3))
	answers(t, x.Insert(entry(integer(1), 7)), api.ErrName)
	answers(t, x.Insert(entry(integer(1), 3)), api.ErrName)
	holds(t, x, entry(integer(1), 3), entry(integer(1), 7), entry(integer(2), 7))
	finds(t, x, integer(1), 3, 7)
	finds(t, x, integer(2), 7)
	finds(t, x, integer(3))
	finds(t, x, text("1"))
	answers(t, x.Delete(entry(integer(2), 3)), api.ErrNone)
	answers(t, x.Delete(entry(integer(3), 7)), api.ErrNone)
	answers(t, x.Delete(entry(text("1"), 7)), api.ErrNone)
	holds(t, x, entry(integer(1), 3), entry(integer(1), 7), entry(integer(2), 7))
	answers(t, x.Delete(entry(integer(1), 7)), api.OK)
	answers(t, x.Delete(entry(integer(1), 7)), api.ErrNone)
	holds(t, x, entry(integer(1), 3), entry(integer(2), 7))
	answers(t, x.Insert(entry(integer(1), 7)), api.OK)
	finds(t, x, integer(1), 3, 7)
}

// Am1: keys of both kinds, in order, at addresses of all sorts.
func TestAllKeys(t *testing.T) {
	var want []api.Entry
	for _, key := range rising() {
		for _, tid := range goodTids() {
			want = append(want, entry(key, tid))
		}
	}
	c := chance(1)
	x := with(t, mixed(&c, want)...)
	holds(t, x, want...)
	for _, e := range want {
		answers(t, x.Insert(e), api.ErrName)
		finds(t, x, e.Key, goodTids()...)
	}
	finds(t, x, integer(2))
	finds(t, x, text("\x00\x01"))
	finds(t, x, text("ab"))
	holds(t, x, want...)
	for _, e := range mixed(&c, want) {
		answers(t, x.Delete(e), api.OK)
		answers(t, x.Delete(e), api.ErrNone)
	}
	holds(t, x)
	if l := x.Pages(); len(l) != 0 {
		t.Error(l)
	}
}

// Am1: an empty list in a field that the kind does not name is the same as none.
func TestEmptyField(t *testing.T) {
	x := with(t, entry(api.Datum{Kind: api.KindInt, L: []api.Datum{}}, 4))
	answers(t, x.Insert(entry(integer(0), 4)), api.ErrName)
	finds(t, x, integer(0), 4)
}

// Am1, R2: what may not be is refused, ahead of a key that is a list, and that ahead of what there is; nothing is changed.
func TestRefuses(t *testing.T) {
	all := []api.Entry{entry(integer(0), 0), entry(text(""), 1), entry(text("a"), api.MaxTid-1)}
	x := with(t, all...)
	for _, key := range bad() {
		for _, tid := range append(badTids(), 0, 1, api.MaxTid-1) {
			answers(t, x.Insert(entry(key, tid)), api.ErrArg)
			answers(t, x.Delete(entry(key, tid)), api.ErrArg)
		}
		if l, e := x.Find(key); e != api.ErrArg || len(l) != 0 {
			t.Errorf("Find(%s): %s %d", short(key), short(l), e)
		}
	}
	for _, tid := range badTids() {
		for _, key := range append(rising(), lists()...) {
			answers(t, x.Insert(entry(key, tid)), api.ErrArg)
			answers(t, x.Delete(entry(key, tid)), api.ErrArg)
		}
	}
	for _, key := range lists() {
		for _, tid := range goodTids() {
			answers(t, x.Insert(entry(key, tid)), api.ErrKind)
			answers(t, x.Delete(entry(key, tid)), api.ErrKind)
		}
		if l, e := x.Find(key); e != api.ErrKind || len(l) != 0 {
			t.Errorf("Find(%s): %s %d", short(key), short(l), e)
		}
	}
	holds(t, x, all...)
}

// Am1: Drop takes all out, and its pages are free; then it is as one that has just begun.
func TestDrop(t *testing.T) {
	s, a, x := fresh(t)
	answers(t, x.Drop(), api.OK)
	for range 3 {
		for _, key := range longest(100) {
			answers(t, x.Insert(entry(key, 5)), api.OK)
		}
		if n := len(x.Pages()); n < 10 {
			t.Errorf("%d pages", n)
		}
		answers(t, x.Drop(), api.OK)
		holds(t, x)
		finds(t, x, integer(0))
		answers(t, x.Delete(entry(longest(1)[0], 5)), api.ErrNone)
		answers(t, x.Drop(), api.OK)
		if l := x.Pages(); len(l) != 0 {
			t.Error(l)
		}
	}
	if root, e := a.Root(2); root != 0 || e != api.OK {
		t.Error(root, e)
	}
	answers(t, a.Commit(), api.OK)
	allUsed(t, s)
}

// R1: nil, and what New did not give, a copy too.
func TestNotGiven(t *testing.T) {
	given := with(t, entry(integer(1), 1))
	copied := *given
	for what, x := range map[string]*bitmapix.Bitmap{"nil": nil, "made": {}, "copied": &copied} {
		refusesAll(t, what, x, api.ErrArg)
		if x.Name() != "" {
			t.Errorf("%s: Name %q", what, x.Name())
		}
	}
	holds(t, given, entry(integer(1), 1))
}

// Am1, Bm1: of one whose action is over each call is refused, ahead of whatever else it would answer.
func TestOver(t *testing.T) {
	s, a, x := fresh(t)
	answers(t, x.Insert(entry(integer(1), 1)), api.OK)
	answers(t, a.Commit(), api.OK)
	refusesAll(t, "committed", x, api.ErrOver)
	b := begin(t, s)
	refusesAll(t, "another action goes on", x, api.ErrOver)
	y := at(t, b, 2)
	holds(t, y, entry(integer(1), 1))
	answers(t, b.Abort(), api.OK)
	refusesAll(t, "aborted", y, api.ErrOver)
	copied := *y
	refusesAll(t, "copied", &copied, api.ErrArg)
}

// Am1: an index has its name, whether or not its action is over.
func TestNameOver(t *testing.T) {
	_, a, x := fresh(t)
	answers(t, a.Commit(), api.OK)
	if x.Name() != "bitmap" {
		t.Errorf("%q", x.Name())
	}
}

// R3: what is handed in is neither kept nor changed.
func TestNotKept(t *testing.T) {
	b := []byte("abcd")
	key := text(unsafe.String(&b[0], 3))
	x := with(t, entry(integer(1), 1), entry(key, 2))
	answers(t, x.Insert(entry(key, 3)), api.OK)
	finds(t, x, key, 2, 3)
	if string(b) != "abcd" {
		t.Errorf("%s", b)
	}
	copy(b, "xyz")
	holds(t, x, entry(integer(1), 1), entry(text("abc"), 2), entry(text("abc"), 3))
	finds(t, x, text("abc"), 2, 3)
}

// spoil writes into all that a list of entries has, its spare room too.
func spoil(l []api.Entry) {
	for _, e := range l {
		for i := range e.Key.S {
			*unsafe.StringData(e.Key.S[i:]) = 'z'
		}
	}
	clear(l[:cap(l)])
}

// R3: each answer is new memory, each key in it too.
func TestAnswersAreNew(t *testing.T) {
	all := []api.Entry{
		entry(integer(1), 1), entry(integer(1), 2), entry(text("a"), 1), entry(text("ab"), 1), entry(text("ab"), 2), entry(text("b\x00"), 1),
	}
	x := with(t, all...)
	for i := range all {
		l := x.Entries()
		spoil(l[i : i+1 : i+1])
		for j := range l {
			if j != i && !sameEntry(l[j], all[j]) {
				t.Errorf("%d spoils %d: %s", i, j, short(l[j]))
			}
		}
	}
	l, m := x.Entries(), x.Entries()
	f, _ := x.Find(integer(1))
	p := x.Pages()
	keys, numbers := x.Counts()
	spoil(l)
	clear(f[:cap(f)])
	clear(p[:cap(p)])
	*unsafe.StringData(keys[1].S) = 'z'
	clear(keys[:cap(keys)])
	clear(numbers[:cap(numbers)])
	if !slices.EqualFunc(m, all, sameEntry) {
		t.Error(short(m))
	}
	holds(t, x, all...)
}

// R4: what calls answer hangs on the pages of the action alone, so that two of one root are one.
func TestTwoOfOneRoot(t *testing.T) {
	_, a, x := fresh(t)
	y := at(t, a, 2)
	answers(t, x.Insert(entry(integer(1), 1)), api.OK)
	answers(t, y.Insert(entry(integer(1), 1)), api.ErrName)
	answers(t, y.Insert(entry(integer(0), 1)), api.OK)
	holds(t, x, entry(integer(0), 1), entry(integer(1), 1))
	answers(t, y.Drop(), api.OK)
	holds(t, x)
}
