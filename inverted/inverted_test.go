package inverted_test

import (
	"math"
	"slices"
	"testing"
	"unsafe"

	"vestibule/api"
	"vestibule/disk"
	"vestibule/inverted"
	"vestibule/method"
	"vestibule/space"
)

// It is a method that finds by items, and counts, and its calls are as the document writes them.
var (
	_ method.Method                                                = (*inverted.Inverted)(nil)
	_ method.Items                                                 = (*inverted.Inverted)(nil)
	_ method.Counted                                               = (*inverted.Inverted)(nil)
	_ func(a *space.Action, r int) (*inverted.Inverted, api.Errno) = inverted.New
	_ func(x *inverted.Inverted, key api.Datum) ([]int, api.Errno) = (*inverted.Inverted).Find
	_ func(x *inverted.Inverted, d api.Datum) ([]int, api.Errno)   = (*inverted.Inverted).Item
	_ func(x *inverted.Inverted, e api.Entry) api.Errno            = (*inverted.Inverted).Insert
	_ func(x *inverted.Inverted) (keys []api.Datum, numbers []int) = (*inverted.Inverted).Counts
)

// The example of the chapter.
func TestExample(t *testing.T) {
	x := with(t, entry(list(integer(1), text("x"), integer(1)), 5), entry(list(), 6))
	itemIs(t, x, integer(1), 5)
	itemIs(t, x, integer(2))
	finds(t, x, list(), 6)
	keys, numbers := x.Counts()
	if !slices.EqualFunc(keys, []api.Datum{integer(1), text("x")}, sameDatum) || !slices.Equal(numbers, []int{1, 1}) {
		t.Error(keys, numbers)
	}
}

// In1: what it can besides.
func TestAbilities(t *testing.T) {
	if l := method.Abilities(with(t)); !slices.Equal(l, []string{"items", "counted"}) {
		t.Error(l)
	}
}

// In1: which roots and actions may be; an action that is over is told behind a root that may not be.
func TestNewRefuses(t *testing.T) {
	s := open(t, disk.New())
	a := begin(t, s)
	refused := func(a *space.Action, root int, want api.Errno) {
		t.Helper()
		if x, e := inverted.New(a, root); x != nil || e != want {
			t.Errorf("New at %d: %v %d, not %d", root, x, e, want)
		}
	}
	copied := *a
	noRoots := []int{-1, api.MaxRoots, api.MaxRoots + 1, math.MinInt, math.MaxInt, -1 << 32, 1 << 32}
	for _, root := range append([]int{0, 5, api.MaxRoots - 1}, noRoots...) {
		for _, none := range []*space.Action{nil, {}, &copied} {
			refused(none, root, api.ErrArg)
		}
	}
	for _, root := range noRoots {
		refused(a, root, api.ErrArg)
	}
	answers(t, a.Commit(), api.OK)
	for _, root := range noRoots {
		refused(a, root, api.ErrArg)
	}
	for root := range api.MaxRoots {
		refused(a, root, api.ErrOver)
	}
}

// In1: at each root an empty one stands at first, on no pages, and as it must.
func TestBegins(t *testing.T) {
	s := open(t, disk.New())
	a := begin(t, s)
	for root := range api.MaxRoots {
		x := at(t, a, root)
		holds(t, x)
		itemsAgree(t, x, nil)
		for _, key := range rising() {
			finds(t, x, key)
			answers(t, x.Delete(entry(key, 0)), api.ErrNone)
		}
	}
	answers(t, a.Commit(), api.OK)
	allUsed(t, s)
}

// Am1, In1: each entry is once; one list may have many addresses, and one address many lists.
func TestInsertDelete(t *testing.T) {
	one, two := list(integer(1), text("a")), list(integer(2), text("a"))
	x := with(t, entry(one, 7), entry(two, 7), entry(one, 3))
	answers(t, x.Insert(entry(one, 7)), api.ErrName)
	answers(t, x.Insert(entry(one, 3)), api.ErrName)
	holds(t, x, entry(one, 3), entry(one, 7), entry(two, 7))
	finds(t, x, one, 3, 7)
	finds(t, x, two, 7)
	answers(t, x.Delete(entry(two, 3)), api.ErrNone)
	answers(t, x.Delete(entry(list(integer(1)), 7)), api.ErrNone)
	answers(t, x.Delete(entry(list(text("a")), 7)), api.ErrNone)
	answers(t, x.Delete(entry(list(), 7)), api.ErrNone)
	holds(t, x, entry(one, 3), entry(one, 7), entry(two, 7))
	answers(t, x.Delete(entry(one, 7)), api.OK)
	answers(t, x.Delete(entry(one, 7)), api.ErrNone)
	holds(t, x, entry(one, 3), entry(two, 7))
	itemIs(t, x, text("a"), 3, 7)
	itemIs(t, x, integer(1), 3)
	answers(t, x.Insert(entry(one, 7)), api.OK)
	finds(t, x, one, 3, 7)
	itemsAgree(t, x, []api.Entry{entry(one, 3), entry(one, 7), entry(two, 7)})
}

// In1: a list is found that is the same, item for item: as often, at the same places, of the same kinds, and no other,
// also where all of them have one address.
func TestItemForItem(t *testing.T) {
	a, one := text("a"), integer(1)
	all := []api.Datum{
		list(), list(one), list(text("1")), list(one, one), list(one, a), list(a, one), list(one, one, a), list(one, a, a), list(one, a, one),
		list(a, one, one), list(a, a, one), list(a, one, a), list(one, one, one), list(one, a, text("b")), list(text("b"), a, one),
		list(one, one, a, a), list(one, a, one, a), list(one, a, a, one), list(a, one, one, a),
	}
	for i, key := range all {
		x := with(t)
		for j, other := range all {
			if i != j {
				answers(t, x.Insert(entry(other, 4)), api.OK)
			}
		}
		finds(t, x, key)
		answers(t, x.Delete(entry(key, 4)), api.ErrNone)
		answers(t, x.Insert(entry(key, 4)), api.OK)
		answers(t, x.Insert(entry(key, 4)), api.ErrName)
		answers(t, x.Insert(entry(key, 9)), api.OK)
		finds(t, x, key, 4, 9)
		for j, other := range all {
			if i != j {
				finds(t, x, other, 4)
			}
		}
		answers(t, x.Delete(entry(key, 4)), api.OK)
		finds(t, x, key, 9)
	}
}

// Am1: lists of all sorts, in order, at addresses of all sorts.
func TestAllKeys(t *testing.T) {
	var want []api.Entry
	for _, key := range rising() {
		for _, tid := range goodTids() {
			want = append(want, entry(key, tid))
		}
	}
	c := chance(1)
	x := with(t, mixed(&c, want)...)
	holds(t, x, want...)
	itemsAgree(t, x, want)
	for _, e := range want {
		answers(t, x.Insert(e), api.ErrName)
		finds(t, x, e.Key, goodTids()...)
	}
	finds(t, x, list(integer(3)))
	finds(t, x, list(text("a"), text("ab")))
	finds(t, x, list(append(longest(1)[0].L[:6], integer(1))...))
	for i, e := range mixed(&c, want) {
		answers(t, x.Delete(e), api.OK)
		answers(t, x.Delete(e), api.ErrNone)
		if i%50 == 0 {
			onPages(t, x, len(want)-i-1)
		}
	}
	holds(t, x)
}

// Am1: an empty list in a field that the kind does not name is the same as none, and so is one as a key.
func TestEmptyField(t *testing.T) {
	empty := []api.Datum{}
	x := with(t, entry(api.Datum{Kind: api.KindList, L: empty}, 4), entry(list(api.Datum{Kind: api.KindInt, L: empty}), 4))
	answers(t, x.Insert(entry(list(), 4)), api.ErrName)
	answers(t, x.Insert(entry(list(integer(0)), 4)), api.ErrName)
	finds(t, x, list(), 4)
	itemIs(t, x, api.Datum{Kind: api.KindInt, L: empty}, 4)
}

// Am1, In1, R2: what may not be is refused, ahead of a key that is no list, and that ahead of what there is; nothing is
// changed.
func TestRefuses(t *testing.T) {
	all := []api.Entry{entry(list(), 0), entry(list(integer(0)), 0), entry(list(text("")), 1), entry(list(text("a")), api.MaxTid-1)}
	x := with(t, all...)
	for _, key := range bad() {
		for _, tid := range append(badTids(), 0, 1, api.MaxTid-1) {
			answers(t, x.Insert(entry(key, tid)), api.ErrArg)
			answers(t, x.Delete(entry(key, tid)), api.ErrArg)
		}
		if l, e := x.Find(key); e != api.ErrArg || len(l) != 0 {
			t.Errorf("Find(%s): %s %d", short(key), short(l), e)
		}
	}
	for _, tid := range badTids() {
		for _, key := range append(rising(), noLists()...) {
			answers(t, x.Insert(entry(key, tid)), api.ErrArg)
			answers(t, x.Delete(entry(key, tid)), api.ErrArg)
		}
	}
	for _, key := range noLists() {
		for _, tid := range goodTids() {
			answers(t, x.Insert(entry(key, tid)), api.ErrKind)
			answers(t, x.Delete(entry(key, tid)), api.ErrKind)
		}
		if l, e := x.Find(key); e != api.ErrKind || len(l) != 0 {
			t.Errorf("Find(%s): %s %d", short(key), short(l), e)
		}
	}
	holds(t, x, all...)
}

// Am1: Drop takes all out, and its pages are free; then it is as one that has just begun.
func TestDrop(t *testing.T) {
	s, a, x := fresh(t)
	answers(t, x.Drop(), api.OK)
	for range 3 {
		for _, key := range longest(30) {
			answers(t, x.Insert(entry(key, 5)), api.OK)
		}
		if n := len(x.Pages()); n < 10 {
			t.Errorf("%d pages", n)
		}
		answers(t, x.Drop(), api.OK)
		holds(t, x)
		finds(t, x, list())
		itemsAgree(t, x, nil)
		answers(t, x.Delete(entry(longest(1)[0], 5)), api.ErrNone)
		answers(t, x.Drop(), api.OK)
	}
	if root, e := a.Root(2); root != 0 || e != api.OK {
		t.Error(root, e)
	}
	answers(t, a.Commit(), api.OK)
	allUsed(t, s)
}

// R1: nil, and what New did not give, a copy too.
func TestNotGiven(t *testing.T) {
	given := with(t, entry(list(integer(1)), 1))
	copied := *given
	for what, x := range map[string]*inverted.Inverted{"nil": nil, "made": {}, "copied": &copied} {
		refusesAll(t, what, x, api.ErrArg)
		if x.Name() != "" {
			t.Errorf("%s: Name %q", what, x.Name())
		}
	}
	holds(t, given, entry(list(integer(1)), 1))
}

// Am1, In1, In2: of one whose action is over each call is refused, ahead of whatever else it would answer.
func TestOver(t *testing.T) {
	s, a, x := fresh(t)
	one := entry(list(integer(1)), 1)
	answers(t, x.Insert(one), api.OK)
	answers(t, a.Commit(), api.OK)
	refusesAll(t, "committed", x, api.ErrOver)
	b := begin(t, s)
	refusesAll(t, "another action goes on", x, api.ErrOver)
	y := at(t, b, 2)
	holds(t, y, one)
	answers(t, b.Abort(), api.OK)
	refusesAll(t, "aborted", y, api.ErrOver)
	copied := *y
	refusesAll(t, "copied", &copied, api.ErrArg)
}

// Am1: an index has its name, whether or not its action is over.
func TestNameOver(t *testing.T) {
	_, a, x := fresh(t)
	answers(t, a.Commit(), api.OK)
	if x.Name() != "inverted" {
		t.Errorf("%q", x.Name())
	}
}

// R3: what is handed in is neither kept nor changed, nor read beyond its end.
func TestNotKept(t *testing.T) {
	b := []byte("abcd")
	room := []api.Datum{text(unsafe.String(&b[0], 3)), integer(1), text("beyond")}
	key := api.Datum{Kind: api.KindList, L: room[:2]}
	x := with(t, entry(list(text("a")), 1), entry(key, 2))
	answers(t, x.Insert(entry(key, 3)), api.OK)
	finds(t, x, key, 2, 3)
	if string(b) != "abcd" || !sameDatum(list(room...), list(text("abc"), integer(1), text("beyond"))) {
		t.Errorf("%s %v", b, room)
	}
	copy(b, "xyz")
	clear(room)
	abc := list(text("abc"), integer(1))
	holds(t, x, entry(list(text("a")), 1), entry(abc, 2), entry(abc, 3))
	finds(t, x, abc, 2, 3)
	itemIs(t, x, text("beyond"))
}

// spoil writes into all that a list of data has, its spare room too.
func spoil(l []api.Datum) {
	for _, d := range l {
		for i := range d.S {
			*unsafe.StringData(d.S[i:]) = 'z'
		}
		spoil(d.L)
	}
	clear(l[:cap(l)])
}

// R3: each answer is new memory, each list in it too.
func TestAnswersAreNew(t *testing.T) {
	ab := list(text("ab"), text("c"), text("ab"))
	all := []api.Entry{entry(list(), 1), entry(list(text("a")), 1), entry(list(text("a")), 2), entry(list(text("ab"), text("c")), 1), entry(ab, 1), entry(ab, 2)}
	x := with(t, all...)
	for i := range all {
		l := x.Entries()
		spoil(l[i].Key.L)
		for j := range l {
			if j != i && !sameEntry(l[j], all[j]) {
				t.Errorf("%d spoils %d: %s", i, j, short(l[j]))
			}
		}
	}
	l, m := x.Entries(), x.Entries()
	f, _ := x.Find(list(text("a")))
	g, _ := x.Item(text("a"))
	p := x.Pages()
	keys, numbers := x.Counts()
	for _, e := range l {
		spoil(e.Key.L)
	}
	clear(l[:cap(l)])
	for _, tids := range [][]int{f, g, p, numbers} {
		clear(tids[:cap(tids)])
	}
	spoil(keys)
	if !slices.EqualFunc(m, all, sameEntry) {
		t.Error(short(m))
	}
	holds(t, x, all...)
	itemsAgree(t, x, all)
}

// R3: an item that stands at two places of a list is told twice, each in memory of its own.
func TestTwicesAreNew(t *testing.T) {
	x := with(t, entry(list(text("ab"), text("ab")), 1))
	l := x.Entries()
	spoil(l[0].Key.L[:1:1])
	if !sameDatum(l[0].Key.L[1], text("ab")) {
		t.Error(l)
	}
}

// R4: what calls answer hangs on the pages of the action alone, so that two of one root are one.
func TestTwoOfOneRoot(t *testing.T) {
	_, a, x := fresh(t)
	y := at(t, a, 2)
	zero, one := entry(list(integer(0)), 1), entry(list(integer(1)), 1)
	answers(t, x.Insert(one), api.OK)
	answers(t, y.Insert(one), api.ErrName)
	answers(t, y.Insert(zero), api.OK)
	holds(t, x, zero, one)
	answers(t, y.Drop(), api.OK)
	holds(t, x)
}
