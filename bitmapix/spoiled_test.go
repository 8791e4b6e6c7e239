package bitmapix_test

import (
	"strings"
	"testing"

	"vestibule/api"
	"vestibule/bitmapix"
	"vestibule/tree"
)

// five is the beginning of what the tree holds of the key 5: the first 256 addresses; one tells of the second of them.
const (
	five = "\x01\x80\x00\x00\x00\x00\x00\x00\x05\x00\x00"
	one  = "\x02" + "\x00\x00\x00\x00\x00\x00\x00\x00\x00\x00" + "\x00\x00\x00\x00\x00\x00\x00\x00\x00\x00" + "\x00\x00\x00\x00\x00\x00\x00\x00\x00\x00\x00"
)

// Am1: Check tells a tree that holds something else beside bits of addresses, or none set, wherever it stands.
func TestCheckStrange(t *testing.T) {
	for what, item := range map[string]api.Item{
		"no datum":               {Key: "\x00", Value: one},
		"bytes of no kind":       {Key: "k", Value: one},
		"above all":              {Key: "\xff", Value: one},
		"a list":                 {Key: "\x03\x00\x00\x01", Value: one},
		"a key's beginning":      {Key: five[:5], Value: one},
		"no number":              {Key: five[:9], Value: one},
		"a part of a number":     {Key: five[:10], Value: one},
		"more than a number":     {Key: five + "\x00", Value: one},
		"a text without its end": {Key: "\x02abc", Value: one},
		"a text that is too long": {
			Key: "\x02" + strings.Repeat("a", 33) + "\x00\x00\x00\x01", Value: one},
		"no bits":     {Key: five},
		"too few":     {Key: five, Value: one[:31]},
		"none is set": {Key: five, Value: strings.Repeat("\x00", 32)},
	} {
		_, a, x := fresh(t)
		for _, key := range rising() {
			answers(t, x.Insert(entry(key, 1)), api.OK)
		}
		tr, _ := tree.New(a, 2)
		if !x.Check() {
			t.Fatal("Check ahead of it")
		}
		if _, e := tr.Put(item.Key, item.Value); e != api.OK || !tr.Check() {
			t.Fatal(what, e)
		}
		if x.Check() {
			t.Errorf("%s: Check", what)
		}
		all(x)
	}
}

// Am1: the entry (5, 1), put as the tree holds it, is as if inserted: the test above asks what it means to.
func TestCheckFive(t *testing.T) {
	_, a, x := fresh(t)
	tr, _ := tree.New(a, 2)
	if _, e := tr.Put(five, one); e != api.OK {
		t.Fatal(e)
	}
	holds(t, x, entry(integer(5), 1))
	finds(t, x, integer(5), 1)
}

// Am1: Check tells a tree that does not stand as it must.
func TestCheckSpoiled(t *testing.T) {
	_, a, x := fresh(t)
	for _, key := range longest(60) {
		answers(t, x.Insert(entry(key, 1)), api.OK)
	}
	for _, page := range x.Pages() {
		was, _ := a.Read(page)
		a.Write(page, 0, strings.Repeat("\x00", api.PageSize))
		if x.Check() {
			t.Errorf("page %d: Check", page)
		}
		a.Write(page, 0, was)
	}
	if !x.Check() {
		t.Error("Check")
	}
}

// all does each call of an index.
func all(x *bitmapix.Bitmap) {
	low, high := integer(1), text("a")
	x.Check()
	x.Entries()
	x.Pages()
	x.Counts()
	x.Find(low)
	x.Find(high)
	for tid := range 3 {
		x.Insert(entry(low, tid))
		x.Insert(entry(high, 300*tid))
		x.Delete(entry(low, tid))
		x.Delete(entry(high, 1))
	}
	x.Delete(entry(integer(5), 1))
	x.Insert(entry(integer(5), 2))
}

// R1: each call ends, whatever stands on the pages.
func TestStrangePages(t *testing.T) {
	c := chance(8)
	for round := range 200 {
		_, a, x := fresh(t)
		for _, key := range mixed(&c, longest(1+c.below(60))) {
			x.Insert(entry(key, c.below(600)))
		}
		pages := x.Pages()
		for range 1 + c.below(4) {
			page := pages[c.below(len(pages))]
			if round%2 == 0 {
				other, _ := a.Read(pages[c.below(len(pages))])
				a.Write(page, 0, other)
			} else {
				a.Write(page, c.below(100), string([]byte{byte(c.below(256))}))
			}
		}
		all(x)
		all(x)
		x.Drop()
		all(x)
	}
}
