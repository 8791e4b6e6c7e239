package inverted_test

import (
	"strings"
	"testing"

	"vestibule/api"
	"vestibule/inverted"
	"vestibule/tree"
)

// The items 5 and 'a', and a list without items, as the tree holds them, and some spots.
const (
	five   = "\x01\x80\x00\x00\x00\x00\x00\x00\x05"
	letter = "\x02a\x00\x00"
	nobody = "\x03\x00"
	spot7  = "\x00\x00\x07\x00" // the first list of the address 7
	spot7b = "\x00\x00\x07\x01" // the second one
	spot9  = "\x00\x00\x09\x00"
)

// numbers are the numbers that an address has, of which the first eight are these bits.
func numbers(bits byte) string { return string([]byte{bits}) + strings.Repeat("\x00", 24) }

// laid is an index whose tree holds these items, each a key, then its value.
func laid(t *testing.T, l ...string) *inverted.Inverted {
	t.Helper()
	_, a, x := fresh(t)
	tr, _ := tree.New(a, 2)
	for i := 0; i < len(l); i += 2 {
		if isNew, e := tr.Put(l[i], l[i+1]); !isNew || e != api.OK {
			t.Fatal(i, isNew, e)
		}
	}
	return x
}

// Am1: what is laid as the tree holds it is as if inserted: the tests below ask what they mean to.
func TestCheckLaid(t *testing.T) {
	holds(t, laid(t, five+spot7, "\x01\x01", "\x00\x00\x00\x07", numbers(1)), entry(list(integer(5)), 7))
	holds(t, laid(t, nobody+spot7, "\x00\x00", "\x00\x00\x00\x07", numbers(1)), entry(list(), 7))
	x := laid(t, five+spot7, "\x03\x05", letter+spot7, "\x03\x02", letter+spot7b, "\x01\x01", "\x00\x00\x00\x07", numbers(3))
	five, a := integer(5), text("a")
	in := []api.Entry{entry(list(a), 7), entry(list(five, a, five), 7)}
	holds(t, x, in...)
	itemsAgree(t, x, in)
	finds(t, x, list(five, a, five), 7)
	answers(t, x.Insert(in[1]), api.ErrName)
	answers(t, x.Delete(in[1]), api.OK)
	holds(t, x, in[0])
}

// Am1: Check tells a tree that holds something else beside postings and numbers, wherever it stands.
func TestCheckStrange(t *testing.T) {
	for what, item := range map[string]api.Item{
		"no datum":                  {Key: "k", Value: "\x01\x01"},
		"above all":                 {Key: "\xff", Value: "\x01\x01"},
		"below all":                 {Key: "\x00", Value: numbers(1)},
		"a list with items":         {Key: "\x03\x01" + five + spot9, Value: "\x00\x00"},
		"an item's beginning":       {Key: five[:5], Value: "\x01\x01"},
		"no spot":                   {Key: five, Value: "\x01\x01"},
		"a part of a spot":          {Key: five + spot9[:3], Value: "\x01\x01"},
		"more than a spot":          {Key: five + spot9 + "\x00", Value: "\x01\x01"},
		"no number":                 {Key: five + "\x00\x00\x09\xc8", Value: "\x01\x01"},
		"a text without its end":    {Key: "\x02abc" + spot9, Value: "\x01\x01"},
		"no value":                  {Key: five + spot9},
		"less than a value":         {Key: five + spot9, Value: "\x01"},
		"more than a value":         {Key: five + spot9, Value: "\x01\x01\x01"},
		"no place":                  {Key: five + spot9, Value: "\x01\x00"},
		"too many items":            {Key: five + spot9, Value: "\x09\xff"},
		"a place behind the last":   {Key: five + spot9, Value: "\x01\x02"},
		"none, but at a place":      {Key: nobody + spot9, Value: "\x00\x01"},
		"none, but of a length":     {Key: nobody + spot9, Value: "\x01\x00"},
		"none, but at its place":    {Key: nobody + spot9, Value: "\x01\x01"},
		"an item of no list":        {Key: five + spot9, Value: "\x00\x00"},
		"numbers of no list":        {Key: "\x00\x00\x00\x0a", Value: numbers(1)},
		"no numbers of no list":     {Key: "\x00\x00\x00\x0a", Value: numbers(0)},
		"numbers of a long address": {Key: "\x00\x00\x00\x00\x09", Value: numbers(1)},
		"a list without numbers":    {Key: five + "\x00\x00\x0a\x00", Value: "\x01\x01"},
	} {
		_, a, x := fresh(t)
		for _, key := range rising() {
			answers(t, x.Insert(entry(key, 1)), api.OK)
		}
		answers(t, x.Insert(entry(list(text("k")), 9)), api.OK) // so that there are numbers of what may be taken for a list of it
		tr, _ := tree.New(a, 2)
		if !x.Check() {
			t.Fatal("Check ahead of it")
		}
		answers(t, tr.Del("\x02k\x00\x00"+spot9), api.OK)
		if isNew, e := tr.Put(item.Key, item.Value); !isNew || e != api.OK || !tr.Check() {
			t.Fatal(what, isNew, e)
		}
		if x.Check() {
			t.Errorf("%s: Check", what)
		}
		all(x)
	}
}

// Am1, Am4: Check tells postings that do not go together, lists that are there twice, and numbers that are not theirs.
func TestCheckTorn(t *testing.T) {
	key := "\x00\x00\x00\x07"
	for what, x := range map[string]*inverted.Inverted{
		"a place without an item":     laid(t, five+spot7, "\x02\x01", key, numbers(1)),
		"two items at a place":        laid(t, five+spot7, "\x02\x03", letter+spot7, "\x02\x02", key, numbers(1)),
		"two at a place, and one":     laid(t, five+spot7, "\x03\x03", letter+spot7, "\x03\x02", "\x02b\x00\x00"+spot7, "\x03\x04", key, numbers(1)),
		"two lengths":                 laid(t, five+spot7, "\x02\x01", letter+spot7, "\x03\x06", key, numbers(1)),
		"two lengths, the longer one": laid(t, five+spot7, "\x03\x01", letter+spot7, "\x02\x02", key, numbers(1)),
		"none and one":                laid(t, five+spot7, "\x01\x01", nobody+spot7, "\x00\x00", key, numbers(1)),
		"a list twice":                laid(t, five+spot7, "\x01\x01", five+spot7b, "\x01\x01", key, numbers(3)),
		"no items twice":              laid(t, nobody+spot7, "\x00\x00", nobody+spot7b, "\x00\x00", key, numbers(3)),
		"another number":              laid(t, five+spot7, "\x01\x01", key, numbers(2)),
		"one number more":             laid(t, five+spot7, "\x01\x01", key, numbers(3)),
		"one number less":             laid(t, five+spot7, "\x01\x01", letter+spot7b, "\x01\x01", key, numbers(1)),
		"numbers that are too short":  laid(t, five+spot7, "\x01\x01", key, numbers(1)[:24]),
		"numbers that are too long":   laid(t, five+spot7, "\x01\x01", key, numbers(1)+"\x00"),
		"another address's numbers":   laid(t, five+spot7, "\x01\x01", "\x00\x00\x00\x08", numbers(1)),
	} {
		if x.Check() {
			t.Errorf("%s: Check", what)
		}
		all(x)
	}
}

// Am1: Check tells a tree that does not stand as it must.
func TestCheckSpoiled(t *testing.T) {
	_, a, x := fresh(t)
	for _, key := range longest(20) {
		answers(t, x.Insert(entry(key, 1)), api.OK)
	}
	for _, page := range x.Pages() {
		was, _ := a.Read(page)
		a.Write(page, 0, strings.Repeat("\x00", api.PageSize))
		if x.Check() {
			t.Errorf("page %d: Check", page)
		}
		a.Write(page, 0, was)
	}
	if !x.Check() {
		t.Error("Check")
	}
}

// all does each call of an index.
func all(x *inverted.Inverted) {
	five, a := integer(5), text("a")
	x.Check()
	x.Entries()
	x.Pages()
	x.Counts()
	for _, key := range []api.Datum{list(), list(five), list(a), list(five, a), list(longItem(3), longItem(70), five)} {
		x.Find(key)
		for _, tid := range []int{7, 8, 9, 1000} {
			x.Insert(entry(key, tid))
			x.Insert(entry(key, tid))
			x.Delete(entry(key, tid))
		}
		x.Insert(entry(key, 7))
	}
	x.Item(five)
	x.Item(longItem(3))
}

// R1: each call ends, whatever stands on the pages.
func TestStrangePages(t *testing.T) {
	c := chance(8)
	for round := range 150 {
		_, a, x := fresh(t)
		for range 1 + c.below(30) {
			x.Insert(entry(c.key(items(), api.MaxItems), c.below(12)))
		}
		for _, key := range mixed(&c, longest(c.below(12))) {
			x.Insert(entry(key, c.below(600)))
		}
		pages := x.Pages()
		for range 1 + c.below(4) {
			page := pages[c.below(len(pages))]
			if round%2 == 0 {
				other, _ := a.Read(pages[c.below(len(pages))])
				a.Write(page, 0, other)
			} else {
				a.Write(page, c.below(100), string([]byte{byte(c.below(256))}))
			}
		}
		all(x)
		all(x)
		x.Drop()
		all(x)
	}
}
