package method_test

import (
	"slices"
	"strings"
	"testing"
	"unsafe"

	"vestibule/api"
	"vestibule/method"
)

// The example of the chapter.
func TestExample(t *testing.T) {
	p := with(t, entry(integer(5), 1), entry(integer(5), 0))
	finds(t, p, integer(5), 0, 1)
	able(t, "example", p, "ordered")
}

// Am2: its name; it begins without entries, stands on no pages, and stands as it must.
func TestPlainBegins(t *testing.T) {
	p := with(t)
	if p.Name() != "plain" || !p.Check() || len(p.Pages()) != 0 {
		t.Error(p.Name(), p.Check(), p.Pages())
	}
	holds(t, p)
	ranges(t, p, nil, nil)
	for _, key := range rising() {
		finds(t, p, key)
		answers(t, p.Delete(entry(key, 0)), api.ErrNone)
	}
}

// Am1: each entry is once; one key may have many addresses, and one address many keys.
func TestInsertDelete(t *testing.T) {
	p := with(t, entry(integer(1), 7), entry(integer(2), 7), entry(integer(1), 3))
	answers(t, p.Insert(entry(integer(1), 7)), api.ErrName)
	answers(t, p.Insert(entry(integer(1), 3)), api.ErrName)
	holds(t, p, entry(integer(1), 3), entry(integer(1), 7), entry(integer(2), 7))
	finds(t, p, integer(1), 3, 7)
	finds(t, p, integer(2), 7)
	finds(t, p, integer(3))
	finds(t, p, text("1"))
	answers(t, p.Delete(entry(integer(2), 3)), api.ErrNone)
	answers(t, p.Delete(entry(integer(3), 7)), api.ErrNone)
	answers(t, p.Delete(entry(text("1"), 7)), api.ErrNone)
	holds(t, p, entry(integer(1), 3), entry(integer(1), 7), entry(integer(2), 7))
	answers(t, p.Delete(entry(integer(1), 7)), api.OK)
	answers(t, p.Delete(entry(integer(1), 7)), api.ErrNone)
	holds(t, p, entry(integer(1), 3), entry(integer(2), 7))
	answers(t, p.Insert(entry(integer(1), 7)), api.OK)
	finds(t, p, integer(1), 3, 7)
}

// Am1: keys of all kinds, in order, at the first and the last addresses.
func TestAllKinds(t *testing.T) {
	var want []api.Entry
	for _, key := range rising() {
		want = append(want, entry(key, 0), entry(key, 63), entry(key, 64), entry(key, api.MaxTid-1))
	}
	c := chance(1)
	p := with(t, mixed(&c, want)...)
	holds(t, p, want...)
	for _, e := range want {
		answers(t, p.Insert(e), api.ErrName)
		finds(t, p, e.Key, 0, 63, 64, api.MaxTid-1)
	}
	finds(t, p, list(integer(1)))
	finds(t, p, list(integer(1), integer(2), integer(2)))
	finds(t, p, list(integer(9), integer(9)))
	holds(t, p, want...)
	for _, e := range mixed(&c, want) {
		answers(t, p.Delete(e), api.OK)
		answers(t, p.Delete(e), api.ErrNone)
	}
	holds(t, p)
}

// Am1: nil and the empty list are the same key.
func TestEmptyList(t *testing.T) {
	p := with(t, entry(list(), 4))
	empty := api.Datum{Kind: api.KindList, L: []api.Datum{}}
	answers(t, p.Insert(entry(empty, 4)), api.ErrName)
	finds(t, p, empty, 4)
	answers(t, p.Delete(entry(empty, 4)), api.OK)
	holds(t, p)
	p = with(t, entry(api.Datum{Kind: api.KindInt, L: []api.Datum{}}, 4))
	answers(t, p.Insert(entry(integer(0), 4)), api.ErrName)
}

// Am1, R2: what may not be is refused, whether or not there is another reason, and changes nothing.
func TestRefuses(t *testing.T) {
	all := []api.Entry{entry(integer(0), 0), entry(text(""), 1), entry(list(), api.MaxTid-1)}
	p := with(t, all...)
	for _, key := range bad() {
		for _, tid := range append(badTids(), 0, 1, api.MaxTid-1) {
			answers(t, p.Insert(entry(key, tid)), api.ErrArg)
			answers(t, p.Delete(entry(key, tid)), api.ErrArg)
		}
		if l, e := p.Find(key); e != api.ErrArg || len(l) != 0 {
			t.Errorf("Find(%s): %s %d", short(key), short(l), e)
		}
	}
	for _, tid := range badTids() {
		for _, key := range rising() {
			answers(t, p.Insert(entry(key, tid)), api.ErrArg)
			answers(t, p.Delete(entry(key, tid)), api.ErrArg)
		}
	}
	holds(t, p, all...)
	agrees(t, p, &hand{all})
}

// Am1: Drop takes all out; then it is as one that has just begun.
func TestDrop(t *testing.T) {
	p := with(t)
	answers(t, p.Drop(), api.OK)
	for range 3 {
		for _, key := range rising() {
			answers(t, p.Insert(entry(key, 5)), api.OK)
		}
		answers(t, p.Drop(), api.OK)
		holds(t, p)
		ranges(t, p, nil, nil)
		finds(t, p, integer(0))
		answers(t, p.Delete(entry(integer(0), 5)), api.ErrNone)
		answers(t, p.Drop(), api.OK)
		if p.Name() != "plain" || !p.Check() || len(p.Pages()) != 0 {
			t.Error(p.Name(), p.Check(), p.Pages())
		}
	}
}

// Am2: an end stands within the range, whether or not there is an entry of it; lists never do.
func TestRange(t *testing.T) {
	keys := rising()
	var all []api.Entry
	for i, key := range keys {
		if i%2 == 0 {
			all = append(all, entry(key, 1), entry(key, 2))
		}
	}
	c := chance(2)
	p := with(t, mixed(&c, all)...)
	h := &hand{all}
	ends := []*api.Datum{nil}
	for i := range keys[:len(keys)-lists] {
		ends = append(ends, &keys[i])
	}
	for _, from := range ends {
		for _, to := range ends {
			ranges(t, p, from, to, h.ranged(from, to, false)...)
		}
	}
	holds(t, p, h.entries()...)
}

// Am2: the same, with what it is written out.
func TestRangeByHand(t *testing.T) {
	l := []api.Entry{
		entry(integer(-1), 9), entry(integer(3), 0), entry(integer(3), 8), entry(integer(4), 1), entry(text(""), 2), entry(text("b"), 3),
	}
	p := with(t, append([]api.Entry{entry(list(), 1), entry(list(integer(3)), 0)}, l...)...)
	three, four, five, none, b, low := integer(3), integer(4), integer(5), text(""), text("b"), integer(-2)
	ranges(t, p, nil, nil, l...)
	ranges(t, p, &three, nil, l[1:]...)
	ranges(t, p, nil, &three, l[:3]...)
	ranges(t, p, &three, &three, l[1:3]...)
	ranges(t, p, &three, &four, l[1:4]...)
	ranges(t, p, &four, &three)
	ranges(t, p, &five, nil, l[4:]...)
	ranges(t, p, &five, &five)
	ranges(t, p, &five, &none, l[4:5]...)
	ranges(t, p, &low, &low)
	ranges(t, p, nil, &low)
	ranges(t, p, &low, &b, l...)
	ranges(t, p, &b, nil, l[5])
	ranges(t, p, &b, &none)
}

// Am2, R2: an end that is no datum is told ahead of one that is a list, whichever of both it is.
func TestRangeRefuses(t *testing.T) {
	l := []api.Entry{entry(integer(1), 1), entry(list(), 2)}
	p := with(t, l...)
	for _, d := range rising()[len(rising())-lists:] {
		for _, other := range []*api.Datum{nil, &l[0].Key, &d} {
			refusesRange(t, p, &d, other, api.ErrKind)
			refusesRange(t, p, other, &d, api.ErrKind)
		}
	}
	for _, d := range bad() {
		for _, other := range []*api.Datum{nil, &l[0].Key, &l[1].Key, &d} {
			refusesRange(t, p, &d, other, api.ErrArg)
			refusesRange(t, p, other, &d, api.ErrArg)
		}
	}
	holds(t, p, l...)
}

// R1: nil, and what NewPlain did not give, a copy too.
func TestNotGiven(t *testing.T) {
	copied := *with(t, entry(integer(1), 1))
	one := integer(1)
	for i, p := range []*method.Plain{nil, {}, &copied} {
		answers(t, p.Insert(entry(one, 2)), api.ErrArg)
		answers(t, p.Delete(entry(one, 1)), api.ErrArg)
		answers(t, p.Drop(), api.ErrArg)
		if l, e := p.Find(one); len(l) != 0 || e != api.ErrArg {
			t.Error(i, l, e)
		}
		if p.Name() != "" || len(p.Entries()) != 0 || len(p.Pages()) != 0 || p.Check() {
			t.Error(i, p.Name(), p.Entries(), p.Pages(), p.Check())
		}
		refusesRange(t, p, nil, nil, api.ErrArg)
		refusesRange(t, p, &one, &one, api.ErrArg)
		deep := list()
		refusesRange(t, p, &deep, nil, api.ErrArg)
		method.Abilities(p)
	}
}

// R3: what is handed in is neither kept nor changed.
func TestNotKept(t *testing.T) {
	b := []byte("abc")
	l := []api.Datum{text(unsafe.String(&b[0], 3)), integer(1), integer(2)}
	p := with(t, entry(l[0], 1), entry(list(l[:2]...), 2), entry(api.Datum{Kind: api.KindList, L: l[:1]}, 3))
	to := l[0]
	ranges(t, p, &to, &to, entry(text("abc"), 1))
	if !slices.EqualFunc(l, []api.Datum{text("abc"), integer(1), integer(2)}, sameDatum) || !sameDatum(to, l[0]) {
		t.Errorf("%v %v", l, to)
	}
	copy(b, "xyz")
	clear(l)
	holds(t, p, entry(text("abc"), 1), entry(list(text("abc")), 3), entry(list(text("abc"), integer(1)), 2))
	finds(t, p, text("abc"), 1)
}

// spoil writes into all that a list of entries has, its spare room too.
func spoil(l []api.Entry) {
	for _, e := range l {
		for i := range e.Key.S {
			*unsafe.StringData(e.Key.S[i:]) = 'z'
		}
		for i, d := range e.Key.L {
			if d.S != "" {
				*unsafe.StringData(d.S) = 'z'
			}
			e.Key.L[i] = integer(99)
		}
		clear(e.Key.L[:cap(e.Key.L)])
	}
	clear(l[:cap(l)])
}

// R3: each answer is new memory, each key in it too.
func TestAnswersAreNew(t *testing.T) {
	all := []api.Entry{
		entry(integer(1), 1), entry(integer(1), 2), entry(text("a"), 1), entry(text("ab"), 1), entry(text("ab"), 2),
		entry(list(text("ab")), 3), entry(list(text("ab")), 4), entry(list(text("ab"), text("ab")), 5),
	}
	p := with(t, all...)
	for i := range all {
		l := p.Entries()
		spoil(l[i : i+1 : i+1])
		for j := range l {
			if j != i && !sameEntry(l[j], all[j]) {
				t.Errorf("%d spoils %d: %s", i, j, short(l[j]))
			}
		}
	}
	l, m := p.Entries(), p.Entries()
	x, _ := p.Range(nil, nil, false)
	y, _ := p.Range(nil, nil, true)
	f, _ := p.Find(integer(1))
	spoil(l)
	spoil(x)
	clear(f[:cap(f)])
	slices.Reverse(y)
	if !slices.EqualFunc(m, all, sameEntry) || !slices.EqualFunc(y, all[:5], sameEntry) {
		t.Errorf("%s, %s", short(m), short(y))
	}
	agrees(t, p, &hand{all})
}

// R4: two of them know nothing of one another.
func TestTwo(t *testing.T) {
	p, q := with(t, entry(integer(1), 1)), with(t, entry(integer(1), 2))
	answers(t, p.Insert(entry(integer(2), 1)), api.OK)
	answers(t, q.Drop(), api.OK)
	holds(t, p, entry(integer(1), 1), entry(integer(2), 1))
	holds(t, q)
}

// Am4: whatever was put and taken, it is as what is in hand.
func TestWork(t *testing.T) {
	keys := rising()
	for seed := range 40 {
		c := chance(seed)
		p, h := with(t), &hand{}
		few, tids := 1+c.below(len(keys)), 1+c.below(6)
		for range 250 {
			e := entry(keys[c.below(few)], c.below(tids))
			if c.below(5) < 2+seed%2 {
				answers(t, p.Insert(e), h.insert(e))
			} else {
				answers(t, p.Delete(e), h.delete(e))
			}
			if c.below(30) == 0 {
				agrees(t, p, h)
			}
			if c.below(200) == 0 {
				answers(t, p.Drop(), api.OK)
				h.l = nil
			}
		}
		agrees(t, p, h)
		from, to := keys[c.below(len(keys)-lists)], keys[c.below(len(keys)-lists)]
		ranges(t, p, &from, &to, h.ranged(&from, &to, false)...)
	}
}

// many are so many entries in order, three to a key.
func many(n int) []api.Entry {
	l := make([]api.Entry, n)
	for i := range l {
		l[i] = entry(integer(i/3-n/6), i%3*1000)
	}
	return l
}

// Am4: many entries, put and taken in order, back, and in none.
func TestMany(t *testing.T) {
	l := many(12000)
	back := slices.Clone(l)
	slices.Reverse(back)
	c := chance(3)
	none := mixed(&c, l)
	for _, in := range [][]api.Entry{l, back, none} {
		for _, out := range [][]api.Entry{l, back, none} {
			p := with(t, in...)
			holds(t, p, l...)
			ranges(t, p, &l[4000].Key, &l[7999].Key, l[3999:8001]...)
			half := len(out) / 2
			for _, e := range out[:half] {
				answers(t, p.Delete(e), api.OK)
				answers(t, p.Delete(e), api.ErrNone)
			}
			h := &hand{slices.Clone(out[half:])}
			holds(t, p, h.entries()...)
			for _, e := range out[:half] {
				answers(t, p.Insert(e), api.OK)
				answers(t, p.Insert(e), api.ErrName)
			}
			holds(t, p, l...)
		}
	}
}

// Am1: many addresses of one key, and of its neighbours.
func TestManyOfOneKey(t *testing.T) {
	const n = 5000
	p := with(t, entry(text("a"), 1), entry(text("c"), 2))
	var want []int
	for i := range n {
		tid := (i * 7919) % n * 3
		answers(t, p.Insert(entry(text("b"), tid)), api.OK)
		want = append(want, 3*i)
	}
	finds(t, p, text("b"), want...)
	finds(t, p, text("a"), 1)
	finds(t, p, text("c"), 2)
	b := text("b")
	if l, e := p.Range(&b, &b, true); e != api.OK || len(l) != n || l[0].Tid != 3*(n-1) || l[n-1].Tid != 0 {
		t.Error(len(l), e)
	}
}

// Am1: the longest key, of the most items, is as any other one.
func TestLongest(t *testing.T) {
	x := text(strings.Repeat("\x00", api.MaxText))
	long := list(slices.Repeat([]api.Datum{x}, api.MaxItems)...)
	p := with(t, entry(long, 1), entry(x, 2))
	holds(t, p, entry(x, 2), entry(long, 1))
	finds(t, p, long, 1)
	ranges(t, p, &x, &x, entry(x, 2))
}
