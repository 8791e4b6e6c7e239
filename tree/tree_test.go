package tree_test

import (
	"math"
	"slices"
	"strings"
	"testing"

	"vestibule/api"
	"vestibule/disk"
	"vestibule/space"
	"vestibule/tree"
)

// noRoots are numbers of no root.
var noRoots = []int{-1, 16, 17, math.MinInt, math.MaxInt, -1 << 32, 1 << 32}

// noKeys are texts that are no keys.
var noKeys = []string{"", strings.Repeat("k", 97), strings.Repeat("\x00", 128), strings.Repeat("k", 256), strings.Repeat("k", 257), strings.Repeat("k", 70000)}

func open(t *testing.T, d *disk.Disk) *space.Space {
	t.Helper()
	s, e := space.Open(d, 8)
	if e != api.OK {
		t.Fatalf("Open: %d", e)
	}
	return s
}

func begin(t *testing.T, s *space.Space) *space.Action {
	t.Helper()
	a, e := s.Begin()
	if e != api.OK {
		t.Fatalf("Begin: %d", e)
	}
	return a
}

func commit(t *testing.T, a *space.Action) {
	t.Helper()
	if e := a.Commit(); e != api.OK {
		t.Fatalf("Commit: %d", e)
	}
}

func abort(t *testing.T, a *space.Action) {
	t.Helper()
	if e := a.Abort(); e != api.OK {
		t.Fatalf("Abort: %d", e)
	}
}

func treeAt(t *testing.T, a *space.Action, root int) *tree.Tree {
	t.Helper()
	tr, e := tree.New(a, root)
	if e != api.OK || tr == nil {
		t.Fatalf("New at %d: %v %d", root, tr, e)
	}
	return tr
}

// fresh is an empty tree at the root 0 of a space, by an action of it.
func fresh(t *testing.T) (*space.Space, *space.Action, *tree.Tree) {
	t.Helper()
	s := open(t, disk.New())
	a := begin(t, s)
	return s, a, treeAt(t, a, 0)
}

// put puts a key, and tells where it was not new, or not one that the tree held, as it must be.
func put(t *testing.T, tr *tree.Tree, key, value string, isNew bool) {
	t.Helper()
	if was, e := tr.Put(key, value); was != isNew || e != api.OK {
		t.Fatalf("Put(%.40q, %.40q): %t %d", key, value, was, e)
	}
}

// puts puts keys that are new, each with itself as its value, as far as that may be.
func puts(t *testing.T, tr *tree.Tree, keys ...string) {
	t.Helper()
	for _, key := range keys {
		put(t, tr, key, key[:min(len(key), 32)], true)
	}
}

func del(t *testing.T, tr *tree.Tree, key string) {
	t.Helper()
	if e := tr.Del(key); e != api.OK {
		t.Fatalf("Del(%.40q): %d", key, e)
	}
}

// holds tells where a key does not hold a value.
func holds(t *testing.T, what string, tr *tree.Tree, key, value string) {
	t.Helper()
	if v, e := tr.Get(key); v != value || e != api.OK {
		t.Errorf("%s: Get(%.40q): %.40q %d, not %.40q", what, key, v, e, value)
	}
}

// lacks tells where keys hold something, or can be taken out.
func lacks(t *testing.T, what string, tr *tree.Tree, keys ...string) {
	t.Helper()
	for _, key := range keys {
		if v, e := tr.Get(key); v != "" || e != api.ErrNone {
			t.Errorf("%s: Get(%.40q): %.40q %d", what, key, v, e)
		}
		if e := tr.Del(key); e != api.ErrNone {
			t.Errorf("%s: Del(%.40q): %d", what, key, e)
		}
	}
}

// finds tells where what a call found is not an item of this key with its value.
func finds(t *testing.T, what string, got api.Item, ok bool, want api.Item) {
	t.Helper()
	if got != want || !ok {
		t.Errorf("%s: %.40q %.40q %t, not %.40q", what, got.Key, got.Value, ok, want.Key)
	}
}

// none tells where a call found something.
func none(t *testing.T, what string, got api.Item, ok bool) {
	t.Helper()
	if got != (api.Item{}) || ok {
		t.Errorf("%s: %.40q %.40q %t", what, got.Key, got.Value, ok)
	}
}

// isEmpty tells where a tree is not empty.
func isEmpty(t *testing.T, what string, tr *tree.Tree) {
	t.Helper()
	item, ok := tr.From("")
	none(t, what+": From", item, ok)
	item, ok = tr.Next("")
	none(t, what+": Next", item, ok)
	item, ok = tr.Prev("z")
	none(t, what+": Prev", item, ok)
	item, ok = tr.Last()
	none(t, what+": Last", item, ok)
	lacks(t, what, tr, "a", "")
	if n, l := tr.Len(), tr.Pages(); n != 0 || len(l) != 0 || !tr.Check() {
		t.Errorf("%s: %d keys on %v, Check %t", what, n, l, tr.Check())
	}
}

// Te1: at each root stands an empty tree at first, on no page.
func TestNew(t *testing.T) {
	s := open(t, disk.New())
	a := begin(t, s)
	for root := range api.MaxRoots {
		isEmpty(t, "new", treeAt(t, a, root))
	}
	commit(t, a)
	if n, l := s.Pages(); n != 0 || len(l) != 0 {
		t.Errorf("Pages: %d %v", n, l)
	}
}

// Te1: what is no action, and what is no root, is refused; then an action that is over is.
func TestNewRefused(t *testing.T) {
	s := open(t, disk.New())
	a := begin(t, s)
	refuses := func(what string, a *space.Action, root int, want api.Errno) {
		t.Helper()
		if tr, e := tree.New(a, root); tr != nil || e != want {
			t.Errorf("%s: New at %d: %v %d, not %d", what, root, tr, e, want)
		}
	}
	for _, root := range noRoots {
		refuses("no root", a, root, api.ErrArg)
	}
	other := *a
	for _, root := range []int{0, 15, 16} {
		refuses("nil", nil, root, api.ErrArg)
		refuses("none that Begin gave", &space.Action{}, root, api.ErrArg)
		refuses("a copy", &other, root, api.ErrArg)
	}
	abort(t, a)
	refuses("over", a, 0, api.ErrOver)
	refuses("over", a, 15, api.ErrOver)
	for _, root := range noRoots {
		refuses("no root, and over", a, root, api.ErrArg)
	}
	a = begin(t, s)
	commit(t, a)
	refuses("committed", a, 0, api.ErrOver)
}

// Te1: a key holds what was put last, and whether it held anything is told.
func TestPut(t *testing.T) {
	_, _, tr := fresh(t)
	put(t, tr, "k", "one", true)
	holds(t, "put", tr, "k", "one")
	put(t, tr, "k", "two", false)
	holds(t, "put again", tr, "k", "two")
	put(t, tr, "k", "two", false)
	put(t, tr, "k", "", false)
	holds(t, "put as nothing", tr, "k", "")
	put(t, tr, "k\x00", "three", true)
	put(t, tr, "K", "", true)
	holds(t, "others put", tr, "k", "")
	holds(t, "others put", tr, "k\x00", "three")
	del(t, tr, "k")
	lacks(t, "taken out", tr, "k", "", "kk", "k\x00\x00", "j", "l")
	put(t, tr, "k", "four", true)
	holds(t, "put anew", tr, "k", "four")
	if n := tr.Len(); n != 3 {
		t.Errorf("Len: %d", n)
	}
}

// Te1: keys have 1 to 96 bytes, values at most 32, of any sort.
func TestPutRefused(t *testing.T) {
	_, _, tr := fresh(t)
	refused := func(key, value string) {
		t.Helper()
		if isNew, e := tr.Put(key, value); isNew || e != api.ErrArg {
			t.Errorf("Put of %d and %d bytes: %t %d", len(key), len(value), isNew, e)
		}
	}
	for range 2 {
		for _, key := range noKeys {
			refused(key, "")
			lacks(t, "no key", tr, key)
		}
		for _, n := range []int{33, 34, 255, 256, 257, 70000} {
			refused("a", strings.Repeat("v", n))
			refused("", strings.Repeat("v", n))
		}
		isNew := tr.Len() == 0
		put(t, tr, strings.Repeat("\xff", 96), strings.Repeat("\x00", 32), isNew)
		put(t, tr, "\x00", strings.Repeat("\xff", 32), isNew)
		put(t, tr, "a", "kept", isNew)
		holds(t, "longest", tr, strings.Repeat("\xff", 96), strings.Repeat("\x00", 32))
		holds(t, "shortest", tr, "\x00", strings.Repeat("\xff", 32))
		holds(t, "refused", tr, "a", "kept")
	}
	if n := tr.Len(); n != 3 {
		t.Errorf("Len: %d", n)
	}
}

// Te2: the keys about any text, be it a key or none.
func TestAbout(t *testing.T) {
	_, _, tr := fresh(t)
	keys := []string{"\x00", "\x00\x00", "a", "a\x00", "aa", "b", "\xff", strings.Repeat("\xff", 96)}
	puts(t, tr, keys...)
	item := func(key string) api.Item { return api.Item{Key: key, Value: key[:min(len(key), 32)]} }
	texts := append(keys[:len(keys):len(keys)], "a\x00\x00", "ab", "\x01", "z", "\xff\x00", strings.Repeat("\xff", 95), strings.Repeat("\xff", 95)+"\xfe")
	for _, text := range append(texts, noKeys...) {
		at, exact := slices.BinarySearch(keys, text)
		above := at
		if exact {
			above++
		}
		check := func(what string, got api.Item, ok bool, want int) {
			t.Helper()
			if want < 0 || want == len(keys) {
				none(t, what, got, ok)
			} else {
				finds(t, what, got, ok, item(keys[want]))
			}
		}
		got, ok := tr.From(text)
		check("From", got, ok, at)
		got, ok = tr.Next(text)
		check("Next", got, ok, above)
		got, ok = tr.Prev(text)
		check("Prev", got, ok, at-1)
	}
	got, ok := tr.Last()
	finds(t, "Last", got, ok, item(keys[len(keys)-1]))
	got, ok = tr.Next(strings.Repeat("\xff", 97))
	none(t, "above all keys that may be", got, ok)
	got, ok = tr.Prev(strings.Repeat("\xff", 97))
	finds(t, "below what is above all keys", got, ok, item(keys[len(keys)-1]))
}

// Te1, Te2: of a tree whose action is over nothing is told.
func TestOver(t *testing.T) {
	s, a, tr := fresh(t)
	puts(t, tr, "a", "b")
	ends := map[string]func() api.Errno{"committed": a.Commit, "aborted": a.Abort}
	for _, what := range []string{"committed", "aborted"} {
		if e := ends[what](); what == "committed" && e != api.OK {
			t.Fatal(e)
		}
		refuse(t, what, tr, api.ErrOver)
		refuse(t, what, treeOver(t, s), api.ErrOver)
	}
	a = begin(t, s)
	refuse(t, "another action goes on", tr, api.ErrOver)
	holds(t, "another action", treeAt(t, a, 0), "a", "a")
}

// treeOver is a tree that was empty when its action was aborted.
func treeOver(t *testing.T, s *space.Space) *tree.Tree {
	t.Helper()
	a := begin(t, s)
	tr := treeAt(t, a, 9)
	abort(t, a)
	return tr
}

// refuse tells where a call is not refused by an error, or, where it answers none, by nothing.
func refuse(t *testing.T, what string, tr *tree.Tree, want api.Errno) {
	t.Helper()
	for _, key := range append([]string{"a", "b", "c"}, noKeys...) {
		isNew, e := tr.Put(key, key)
		value, f := tr.Get(key)
		if isNew || value != "" || e != want || f != want || tr.Del(key) != want {
			t.Errorf("%s: of %.40q: Put %t %d, Get %.40q %d, Del %d", what, key, isNew, e, value, f, tr.Del(key))
		}
		item, ok := tr.From(key)
		none(t, what+": From", item, ok)
		item, ok = tr.Next(key)
		none(t, what+": Next", item, ok)
		item, ok = tr.Prev(key)
		none(t, what+": Prev", item, ok)
	}
	item, ok := tr.Last()
	none(t, what+": Last", item, ok)
	if n, l := tr.Len(), tr.Pages(); n != 0 || len(l) != 0 || tr.Check() || tr.Drop() != want {
		t.Errorf("%s: Len %d, Pages %v, Check %t, Drop %d", what, n, l, tr.Check(), tr.Drop())
	}
}

// R1: a tree that New did not give is none.
func TestNoTree(t *testing.T) {
	_, _, tr := fresh(t)
	puts(t, tr, "a", "b")
	other := *tr
	refuse(t, "nil", nil, api.ErrArg)
	refuse(t, "none that New gave", &tree.Tree{}, api.ErrArg)
	refuse(t, "a copy", &other, api.ErrArg)
	if n := tr.Len(); n != 2 || !tr.Check() {
		t.Errorf("behind it: %d keys", n)
	}
}

// Te2: what is dropped is empty, and its pages are free.
func TestDrop(t *testing.T) {
	s, a, tr := fresh(t)
	if e := tr.Drop(); e != api.OK {
		t.Errorf("Drop of an empty one: %d", e)
	}
	isEmpty(t, "dropped when empty", tr)
	for round := range 3 {
		for _, key := range long(200) {
			put(t, tr, key, "v", true)
		}
		pages := tr.Pages()
		if len(pages) < 40 {
			t.Fatalf("%d pages", len(pages))
		}
		if round > 0 {
			commit(t, a)
			a = begin(t, s)
			tr = treeAt(t, a, 0)
		}
		if e := tr.Drop(); e != api.OK {
			t.Errorf("Drop: %d", e)
		}
		isEmpty(t, "dropped", tr)
		for _, page := range pages {
			if _, e := a.Read(page); e != api.ErrNone {
				t.Fatalf("dropped: Read(%d): %d", page, e)
			}
		}
		if n, e := a.Root(0); n != 0 || e != api.OK {
			t.Errorf("dropped: Root %d %d", n, e)
		}
	}
	commit(t, a)
	if n, free := s.Pages(); n != len(free) {
		t.Errorf("%d pages, %d of them free", n, len(free))
	}
}

// R4: two trees of one root are one.
func TestSameRoot(t *testing.T) {
	_, a, tr := fresh(t)
	other := treeAt(t, a, 0)
	for i, key := range long(60) {
		put(t, []*tree.Tree{tr, other}[i%2], key, "v", true)
	}
	for i, key := range long(60) {
		holds(t, "by the other", []*tree.Tree{other, tr}[i%2], key, "v")
	}
	if tr.Len() != 60 || other.Len() != 60 || !slices.Equal(tr.Pages(), other.Pages()) {
		t.Errorf("%d and %d keys", tr.Len(), other.Len())
	}
	if e := other.Drop(); e != api.OK {
		t.Error(e)
	}
	isEmpty(t, "dropped by the other", tr)
}

// R3: what was answered is not changed by what comes behind.
func TestAnswersAreNew(t *testing.T) {
	_, _, tr := fresh(t)
	puts(t, tr, long(100)...)
	pages, again := tr.Pages(), tr.Pages()
	kept := slices.Clone(pages)
	spare := again[:cap(again)]
	for i := range spare {
		spare[i] = -1
	}
	if !slices.Equal(pages, kept) || !slices.Equal(tr.Pages(), kept) {
		t.Error("Pages shares memory")
	}
}

// The chapter's example.
func TestExample(t *testing.T) {
	_, _, tr := fresh(t)
	for _, key := range []string{"b", "a", "c"} {
		put(t, tr, key, "", true)
	}
	item, ok := tr.From("")
	finds(t, "From", item, ok, api.Item{Key: "a"})
	item, ok = tr.Next("a")
	finds(t, "Next", item, ok, api.Item{Key: "b"})
	item, ok = tr.Prev("a")
	none(t, "Prev", item, ok)
	del(t, tr, "b")
	if n := tr.Len(); n != 2 {
		t.Errorf("Len: %d", n)
	}
	if e := tr.Drop(); e != api.OK || len(tr.Pages()) != 0 {
		t.Errorf("Drop: %d, Pages %v", e, tr.Pages())
	}
}
