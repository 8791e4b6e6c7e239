package bitmapix_test

import (
	"slices"
	"testing"

	"vestibule/api"
)

// Am4: each of many addresses that follow one another is told from its neighbours, wherever they begin.
func TestEachAddress(t *testing.T) {
	const n = 600
	key := text("a")
	for _, first := range []int{0, 250, 65536 - n/2, api.MaxTid - n} {
		x := with(t, entry(integer(7), first), entry(text("b"), first+1))
		var in []int
		for i := range n {
			answers(t, x.Delete(entry(key, first+i)), api.ErrNone)
			answers(t, x.Insert(entry(key, first+i)), api.OK)
			answers(t, x.Insert(entry(key, first+i)), api.ErrName)
			in = append(in, first+i)
			finds(t, x, key, in...)
		}
		for _, i := range []int{0, n - 1, n / 2, 255, 256} {
			answers(t, x.Delete(entry(key, first+i)), api.OK)
			answers(t, x.Delete(entry(key, first+i)), api.ErrNone)
			out := slices.DeleteFunc(slices.Clone(in), func(tid int) bool { return tid == first+i })
			finds(t, x, key, out...)
			answers(t, x.Insert(entry(key, first+i)), api.OK)
		}
		for i := range n {
			answers(t, x.Delete(entry(key, first+i)), api.OK)
			answers(t, x.Delete(entry(key, first+i)), api.ErrNone)
			finds(t, x, key, in[i+1:]...)
		}
		holds(t, x, entry(integer(7), first), entry(text("b"), first+1))
	}
}

// Am1: of few keys many addresses stand on few pages, as each of them is a bit; with the last address of a key goes all
// that told of it.
func TestManyBits(t *testing.T) {
	const n = 20000
	x := with(t)
	for i := range n {
		answers(t, x.Insert(entry(integer(i%2), i)), api.OK)
	}
	if l := x.Pages(); len(l) > 40 {
		t.Errorf("%d pages", len(l))
	}
	if keys, numbers := x.Counts(); len(keys) != 2 || !slices.Equal(numbers, []int{n / 2, n / 2}) {
		t.Error(keys, numbers)
	}
	for i := range n {
		if i != 9 {
			answers(t, x.Delete(entry(integer(i%2), i)), api.OK)
		}
	}
	if l := x.Pages(); len(l) != 1 {
		t.Errorf("%d pages", len(l))
	}
	holds(t, x, entry(integer(1), 9))
}

// Bm1, Bm2: keys are counted in their order, and come and go with their first and last addresses.
func TestCounts(t *testing.T) {
	x := with(t)
	if keys, numbers := x.Counts(); len(keys) != 0 || len(numbers) != 0 {
		t.Error(keys, numbers)
	}
	var in []api.Entry
	for i, key := range rising() {
		for j := range i%4 + 1 {
			in = append(in, entry(key, 200*j+i))
		}
	}
	c := chance(5)
	for _, e := range mixed(&c, in) {
		answers(t, x.Insert(e), api.OK)
	}
	counts(t, x, in)
	_, numbers := x.Counts()
	sum := 0
	for _, n := range numbers {
		sum += n
	}
	if sum != len(in) || sum != len(x.Entries()) {
		t.Errorf("%d of %d", sum, len(in))
	}
	for i, e := range in {
		answers(t, x.Delete(e), api.OK)
		counts(t, x, in[i+1:])
	}
}
