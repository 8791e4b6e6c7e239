package method

import (
	"slices"

	"vestibule/api"
	"vestibule/datum"
)

// listsBegin is what the bytes of each list begin with, and what all other bytes of keys stand ahead of.
const listsBegin = "\x03"

// Plain is a method that holds its entries in hand.
type Plain struct {
	self *Plain // tells a Plain that NewPlain gave from any other, a copy of one too: that would share its entries
	rack rack
}

// NewPlain is one without entries.
func NewPlain() *Plain {
	p := &Plain{}
	p.self = p
	return p
}

// given tells whether NewPlain gave it.
func (p *Plain) given() bool { return p != nil && p.self == p }

// Name is its name.
func (p *Plain) Name() string {
	if !p.given() {
		return ""
	}
	return "plain"
}

// Insert puts an entry.
func (p *Plain) Insert(e api.Entry) api.Errno {
	h, err := p.heldOf(e)
	if err == api.OK && !p.rack.put(h) {
		return api.ErrName
	}
	return err
}

// Delete takes it out.
func (p *Plain) Delete(e api.Entry) api.Errno {
	h, err := p.heldOf(e)
	if err == api.OK && !p.rack.take(h) {
		return api.ErrNone
	}
	return err
}

// heldOf is an entry as it is held, if it may be.
func (p *Plain) heldOf(e api.Entry) (held, api.Errno) {
	if e.Tid < 0 || e.Tid >= api.MaxTid {
		return held{}, api.ErrArg
	}
	key, err := p.keyOf(e.Key)
	return held{key, e.Tid}, err
}

// keyOf is a key as it is held, if it may be.
func (p *Plain) keyOf(key api.Datum) (string, api.Errno) {
	if !p.given() {
		return "", api.ErrArg
	}
	b, err := datum.Bytes(key)
	if err != api.OK {
		return "", api.ErrArg
	}
	return b, api.OK
}

// Find are the addresses of a key, rising.
func (p *Plain) Find(key api.Datum) ([]int, api.Errno) {
	k, err := p.keyOf(key)
	if err != api.OK {
		return nil, err
	}
	var l []int
	for h := range p.rack.from(held{key: k}) {
		if h.key != k {
			break
		}
		l = append(l, h.tid)
	}
	return l, api.OK
}

// Entries are all, in order.
func (p *Plain) Entries() []api.Entry {
	if !p.given() {
		return nil
	}
	var l []api.Entry
	for h := range p.rack.from(held{}) {
		l = append(l, entryOf(h))
	}
	return l
}

// entryOf is an entry as it was put: its key is made anew, so that no two answers share one.
func entryOf(h held) api.Entry {
	key, _, _ := datum.Of(h.key)
	return api.Entry{Key: key, Tid: h.tid}
}

// Pages are none: it stands on no pages.
func (p *Plain) Pages() []int { return nil }

// Check tells whether it stands as it must.
func (p *Plain) Check() bool { return p.given() }

// Drop takes all out.
func (p *Plain) Drop() api.Errno {
	if !p.given() {
		return api.ErrArg
	}
	p.rack = rack{}
	return api.OK
}

// Range are the entries from a key on up to another one, or back.
func (p *Plain) Range(from, to *api.Datum, back bool) ([]api.Entry, api.Errno) {
	if !p.given() {
		return nil, api.ErrArg
	}
	if err := checkEnds(from, to); err != api.OK {
		return nil, err
	}
	last := endOf(to, listsBegin)
	var l []api.Entry
	for h := range p.rack.from(held{key: endOf(from, "")}) {
		if h.key > last {
			break
		}
		l = append(l, entryOf(h))
	}
	if back {
		slices.Reverse(l)
	}
	return l, api.OK
}

// checkEnds tells whether a range may have these ends: what is no datum is told ahead of what is a list, whichever end it is.
func checkEnds(ends ...*api.Datum) api.Errno {
	for _, d := range ends {
		if d != nil && datum.Check(*d) != api.OK {
			return api.ErrArg
		}
	}
	for _, d := range ends {
		if d != nil && d.Kind == api.KindList {
			return api.ErrKind
		}
	}
	return api.OK
}

// endOf is an end of a range as keys are held, or, if it is nil, what stands for none.
func endOf(d *api.Datum, none string) string {
	if d == nil {
		return none
	}
	key, _ := datum.Bytes(*d)
	return key
}
