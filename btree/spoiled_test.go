package btree_test

import (
	"strings"
	"testing"

	"vestibule/api"
	"vestibule/btree"
	"vestibule/tree"
)

// five is the entry (5, 1) as the tree holds it.
const five = "\x01\x80\x00\x00\x00\x00\x00\x00\x05\x00\x00\x01"

// Am1: Check tells a tree that holds something else beside entries, wherever it stands.
func TestCheckStrange(t *testing.T) {
	for what, item := range map[string]api.Item{
		"no datum":               {Key: "\x00"},
		"bytes of no kind":       {Key: "k"},
		"above all":              {Key: "\xff"},
		"a list":                 {Key: "\x03\x00\x00\x00\x01"},
		"a key's beginning":      {Key: five[:5]},
		"no address":             {Key: five[:9]},
		"a part of an address":   {Key: five[:11]},
		"more than an address":   {Key: five + "\x00"},
		"a text without its end": {Key: "\x02abc"},
		"a text that is too long": {
			Key: "\x02" + strings.Repeat("a", 33) + "\x00\x00\x00\x00\x01"},
		"a value": {Key: five, Value: "v"},
	} {
		_, a, x := fresh(t)
		for _, key := range rising() {
			answers(t, x.Insert(entry(key, 1)), api.OK)
		}
		tr, _ := tree.New(a, 2)
		if !x.Check() {
			t.Fatal("Check ahead of it")
		}
		if _, e := tr.Put(item.Key, item.Value); e != api.OK || !tr.Check() {
			t.Fatal(what, e)
		}
		if x.Check() {
			t.Errorf("%s: Check", what)
		}
		all(x)
	}
}

// Am1: the entry (5, 1), put as the tree holds it, is as if inserted: the test above asks what it means to.
func TestCheckFive(t *testing.T) {
	_, a, x := fresh(t)
	tr, _ := tree.New(a, 2)
	if _, e := tr.Put(five, ""); e != api.OK {
		t.Fatal(e)
	}
	holds(t, x, entry(integer(5), 1))
}

// Am1: Check tells a tree that does not stand as it must.
func TestCheckSpoiled(t *testing.T) {
	_, a, x := fresh(t)
	for _, key := range longest(60) {
		answers(t, x.Insert(entry(key, 1)), api.OK)
	}
	for _, page := range x.Pages() {
		was, _ := a.Read(page)
		a.Write(page, 0, strings.Repeat("\x00", api.PageSize))
		if x.Check() {
			t.Errorf("page %d: Check", page)
		}
		a.Write(page, 0, was)
	}
	if !x.Check() {
		t.Error("Check")
	}
}

// all does each call of an index.
func all(x *btree.Btree) {
	one, low := integer(1), text("a")
	x.Check()
	x.Entries()
	x.Pages()
	x.Counts()
	x.Find(one)
	x.Range(&one, &low, false)
	x.Range(nil, nil, true)
	x.Range(&low, nil, true)
	x.Insert(entry(one, 1))
	x.Insert(entry(low, 2))
	x.Delete(entry(one, 1))
	x.Load(nil)
}

// R1: each call ends, whatever stands on the pages.
func TestStrangePages(t *testing.T) {
	c := chance(8)
	for round := range 200 {
		_, a, x := fresh(t)
		for _, key := range mixed(&c, longest(1+c.below(60))) {
			x.Insert(entry(key, c.below(100)))
		}
		pages := x.Pages()
		for range 1 + c.below(4) {
			page := pages[c.below(len(pages))]
			if round%2 == 0 {
				other, _ := a.Read(pages[c.below(len(pages))])
				a.Write(page, 0, other)
			} else {
				a.Write(page, c.below(100), string([]byte{byte(c.below(256))}))
			}
		}
		all(x)
		all(x)
		x.Drop()
		all(x)
	}
}
