package btree_test

import (
	"slices"
	"testing"

	"vestibule/api"
)

// sorted are so many entries in order, of keys of both kinds, some with several addresses.
func sorted(n int) []api.Entry {
	var l []api.Entry
	for i := 0; len(l) < n/2; i++ {
		for tid := range 1 + i%3 {
			l = append(l, entry(integer(7*i-n), 100*tid+i%5))
		}
	}
	l = l[:n/2]
	for _, key := range longest(n - n/2) {
		l = append(l, entry(key, api.MaxTid-1-len(l)))
	}
	return l
}

// Bt2, Bt3: what was loaded is as what was inserted, and goes on as that does.
func TestLoad(t *testing.T) {
	c := chance(3)
	for _, n := range []int{0, 1, 2, 3, 10, 100, 1023, 1024, 1025, 2048, 2500, 6000} {
		l := sorted(n)
		s, a, x := fresh(t)
		answers(t, x.Load(l), api.OK)
		agrees(t, x, plainWith(t, l...))
		for _, e := range l[:min(n, 50)] {
			answers(t, x.Insert(e), api.ErrName)
		}
		gone := mixed(&c, l)[:n/2]
		for _, e := range gone {
			answers(t, x.Delete(e), api.OK)
		}
		for _, e := range mixed(&c, gone) {
			answers(t, x.Insert(e), api.OK)
		}
		holds(t, x, l...)
		answers(t, a.Commit(), api.OK)
		a = begin(t, s)
		x = at(t, a, 2)
		holds(t, x, l...)
		allUsed(t, s, x)
	}
}

// Bt2: one that was emptied, by whatever way, may be loaded; one that is not empty may not be, not even with nothing.
func TestLoadEmpty(t *testing.T) {
	l := []api.Entry{entry(integer(1), 1), entry(integer(1), 2), entry(text("a"), 0)}
	x := with(t, entry(integer(5), 5))
	for _, m := range [][]api.Entry{nil, l, {entry(integer(5), 5)}, {entry(list(), 1)}, {entry(api.Datum{}, 1)}, {entry(integer(1), -1)}, {l[1], l[0]}} {
		answers(t, x.Load(m), api.ErrName)
		holds(t, x, entry(integer(5), 5))
	}
	answers(t, x.Delete(entry(integer(5), 5)), api.OK)
	answers(t, x.Load(nil), api.OK)
	answers(t, x.Load([]api.Entry{}), api.OK)
	holds(t, x)
	answers(t, x.Load(l), api.OK)
	holds(t, x, l...)
	answers(t, x.Load(l), api.ErrName)
	answers(t, x.Drop(), api.OK)
	answers(t, x.Load(l[1:]), api.OK)
	holds(t, x, l[1:]...)
}

// Bt2, R2: an entry that may not be is told ahead of a key that is a list, and that ahead of what does not rise,
// wherever each of them stands; nothing is changed.
func TestLoadRefuses(t *testing.T) {
	ok := []api.Entry{entry(integer(1), 1), entry(integer(1), 2), entry(integer(2), 0), entry(text("a"), 0), entry(text("ab"), 5)}
	x := with(t)
	refused := func(want api.Errno, l ...api.Entry) {
		t.Helper()
		answers(t, x.Load(l), want)
		holds(t, x)
		if p := x.Pages(); len(p) != 0 {
			t.Fatal(p)
		}
	}
	for at := range len(ok) + 1 {
		for _, key := range bad() {
			refused(api.ErrArg, slices.Insert(slices.Clone(ok), at, entry(key, 1))...)
		}
		for _, tid := range badTids() {
			refused(api.ErrArg, slices.Insert(slices.Clone(ok), at, entry(integer(1), tid))...)
			refused(api.ErrArg, slices.Insert(slices.Clone(ok), at, entry(list(), tid))...)
		}
		for _, key := range lists() {
			l := slices.Insert(slices.Clone(ok), at, entry(key, 1))
			refused(api.ErrKind, l...)
			refused(api.ErrArg, slices.Concat(l, []api.Entry{entry(integer(9), -1)})...)
			refused(api.ErrArg, slices.Concat(l, []api.Entry{entry(api.Datum{}, 1)})...)
			refused(api.ErrKind, slices.Concat(l, ok)...) // and it does not rise
			refused(api.ErrKind, slices.Concat(ok, l)...)
		}
	}
	for i := range ok {
		for j := range i {
			l := slices.Clone(ok)
			l[i], l[j] = l[j], l[i]
			refused(api.ErrArg, l...)
			l[i] = l[j]
			refused(api.ErrArg, l...)
		}
		refused(api.ErrArg, slices.Insert(slices.Clone(ok), i, ok[i])...)
	}
	answers(t, x.Load(ok), api.OK)
	holds(t, x, ok...)
}

// Bt2: among many, each that stands at another place is told, and each that stands twice.
func TestLoadManyRefuses(t *testing.T) {
	l := sorted(5000)
	x := with(t)
	for _, i := range []int{0, 1, 1022, 1023, 1024, 1025, 2047, 2048, 2499, 2500, 4998} {
		m := slices.Clone(l)
		m[i], m[i+1] = m[i+1], m[i]
		answers(t, x.Load(m), api.ErrArg)
		m = slices.Clone(l)
		m[i+1] = m[i]
		answers(t, x.Load(m), api.ErrArg)
	}
	m := slices.Clone(l)
	m[0], m[4999] = m[4999], m[0]
	answers(t, x.Load(m), api.ErrArg)
	slices.Reverse(l)
	answers(t, x.Load(l), api.ErrArg)
	holds(t, x)
}
