package inverted_test

import (
	"slices"
	"testing"

	"vestibule/api"
)

// most is how many keys an address may have.
const most = 200

// manyKeys are more keys than one address may have: one without items among them, and some that share all of their items.
func manyKeys() []api.Datum {
	l := []api.Datum{list(), list(integer(0), text("a"), text("a")), list(text("a"), integer(0), text("a")), list(text("a"), integer(0))}
	for i := range most {
		l = append(l, list(integer(i/9), text("a"), integer(i)))
	}
	return l
}

// In1: the key that would be the 201st of its address is refused, behind all else that it could be refused for; where one
// goes, another one may come.
func TestMostKeys(t *testing.T) {
	keys := manyKeys()
	x := with(t, entry(keys[most], 8), entry(keys[0], 10))
	p := plainWith(t, entry(keys[most], 8), entry(keys[0], 10))
	for i, key := range keys[:most] {
		answers(t, x.Insert(entry(key, 9)), api.OK)
		answers(t, p.Insert(entry(key, 9)), api.OK)
		if i%20 == 0 {
			agrees(t, x, p)
		}
	}
	refused := func() {
		t.Helper()
		answers(t, x.Insert(entry(keys[most], 9)), api.ErrFull)
		answers(t, x.Insert(entry(longest(1)[0], 9)), api.ErrFull)
		answers(t, x.Insert(entry(integer(1), 9)), api.ErrKind)
		answers(t, x.Insert(entry(list(list()), 9)), api.ErrArg)
		agrees(t, x, p)
	}
	refused()
	for _, key := range keys[:most] {
		answers(t, x.Insert(entry(key, 9)), api.ErrName)
	}
	itemIs(t, x, text("a"), 8, 9)
	for _, i := range []int{0, 77, most - 1} {
		answers(t, x.Delete(entry(keys[i], 9)), api.OK)
		answers(t, x.Insert(entry(keys[most+1], 9)), api.OK)
		answers(t, x.Insert(entry(keys[i], 9)), api.ErrFull)
		answers(t, x.Delete(entry(keys[most+1], 9)), api.OK)
		answers(t, x.Insert(entry(keys[i], 9)), api.OK)
		refused()
	}
}

// In1: each address has so many keys by itself.
func TestMostOfEach(t *testing.T) {
	keys := manyKeys()
	x := with(t)
	tids := []int{0, 1, 255, 256, api.MaxTid - 1}
	for i, key := range keys[:most] {
		for _, tid := range tids {
			answers(t, x.Insert(entry(key, tid)), api.OK)
		}
		if i%50 == 0 {
			finds(t, x, key, tids...)
		}
	}
	for _, tid := range tids {
		answers(t, x.Insert(entry(keys[most], tid)), api.ErrFull)
	}
	answers(t, x.Insert(entry(keys[most], 2)), api.OK)
	for _, key := range keys[:most] {
		finds(t, x, key, tids...)
	}
	onPages(t, x, most*len(tids)+1)
	for _, key := range keys[:most] {
		answers(t, x.Delete(entry(key, 255)), api.OK)
	}
	itemIs(t, x, text("a"), 0, 1, 2, 256, api.MaxTid-1)
	for _, key := range keys[most/2+2:] {
		answers(t, x.Insert(entry(key, 255)), api.OK)
	}
	if !x.Check() || len(x.Entries()) != most*(len(tids)-1)+1+len(keys[most/2+2:]) {
		t.Error(x.Check(), len(x.Entries()))
	}
}

// Am1: keys that take the most bytes stand on no more pages than they may, in whatever order they come and go.
func TestLongestOnPages(t *testing.T) {
	keys := longest(150)
	back := slices.Clone(keys)
	slices.Reverse(back)
	c := chance(9)
	for _, in := range [][]api.Datum{keys, back, mixed(&c, keys)} {
		for _, out := range [][]api.Datum{keys, back, mixed(&c, keys)} {
			x := with(t)
			for i, key := range in {
				answers(t, x.Insert(entry(key, i)), api.OK)
				onPages(t, x, i+1)
			}
			for i, key := range out {
				answers(t, x.Delete(entry(key, slices.IndexFunc(in, func(d api.Datum) bool { return sameDatum(d, key) }))), api.OK)
				onPages(t, x, len(out)-i-1)
			}
		}
	}
}

// Am1: lists whose items are spread among those of all others, so that what is left when most go stands far apart.
func TestSpreadOnPages(t *testing.T) {
	c := chance(12)
	const n = 160
	for round := range 4 {
		var all []int
		for i := range n * api.MaxItems {
			all = append(all, i)
		}
		all = mixed(&c, all)
		x := with(t)
		var in []api.Entry
		for i := range n {
			key := list()
			for _, j := range all[i*api.MaxItems : (i+1)*api.MaxItems] {
				key.L = append(key.L, longItem(j))
			}
			in = append(in, entry(key, i*(1+round*1000)))
			answers(t, x.Insert(in[i]), api.OK)
			onPages(t, x, i+1)
		}
		for i, e := range in {
			answers(t, x.Delete(e), api.OK)
			onPages(t, x, n-i-1)
		}
	}
}

// Few entries of few bytes stand on few pages.
func TestFewPages(t *testing.T) {
	x := with(t)
	for i := range 600 {
		answers(t, x.Insert(entry(list(integer(i%10)), i)), api.OK)
	}
	if l := x.Pages(); len(l) > 150 {
		t.Errorf("%d pages", len(l))
	}
	for i := range 600 {
		if i != 9 {
			answers(t, x.Delete(entry(list(integer(i%10)), i)), api.OK)
		}
	}
	if l := x.Pages(); len(l) != 1 {
		t.Errorf("%d pages", len(l))
	}
	holds(t, x, entry(list(integer(9)), 9))
}
