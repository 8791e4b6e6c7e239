package space

import (
	"maps"
	"math"
	"slices"

	"vestibule/api"
)

// Action is one that goes on. It has a head of its own, and drafts of the pages that it changes: till it is finished
// nothing of it is anywhere else, so that there is nothing to be taken back.
type Action struct {
	self *Action // tells an action that Begin gave from any other, a copy of one too: that would share its drafts
	*store
	head
	drafts map[int]*draft // by the pages' numbers
}

// refuses is what calls answer of what is no action, or of one that is over.
func (a *Action) refuses() api.Errno {
	switch {
	case a == nil || a.self != a:
		return api.ErrArg
	case a.current != a:
		return api.ErrOver
	}
	return api.OK
}

// refusesPage is what calls on a page answer that can not be done: refuses, or that there is no such page.
func (a *Action) refusesPage(page int) api.Errno {
	if e := a.refuses(); e != api.OK {
		return e
	}
	if !a.has(page) {
		return api.ErrNone
	}
	return api.OK
}

// Read is a page's bytes, as the action has them.
func (a *Action) Read(page int) (string, api.Errno) {
	if e := a.refusesPage(page); e != api.OK {
		return "", e
	}
	if d := a.drafts[page]; d != nil {
		return string(d.now[:]), api.OK
	}
	return a.read(page), api.OK
}

// Write writes bytes into a page.
func (a *Action) Write(page, at int, s string) api.Errno {
	if e := a.refusesPage(page); e != api.OK {
		return e
	}
	if at < 0 || at > api.PageSize-len(s) {
		return api.ErrArg
	}
	d := a.drafts[page]
	if d == nil {
		d = draftOf(a.read(page))
		a.drafts[page] = d
	}
	copy(d.now[at:], s)
	return api.OK
}

// Alloc is a page of noughts that was free, or is new.
func (a *Action) Alloc() (int, api.Errno) {
	if e := a.refuses(); e != api.OK {
		return 0, e
	}
	page := a.take()
	if page == 0 {
		return 0, api.ErrFull
	}
	a.drafts[page] = &draft{fresh: true}
	return page, api.OK
}

// Free lets a page be free.
func (a *Action) Free(page int) api.Errno {
	if e := a.refusesPage(page); e != api.OK {
		return e
	}
	a.turn(page)
	delete(a.drafts, page)
	return api.OK
}

// Root is a number that is kept by its own number.
func (a *Action) Root(k int) (int, api.Errno) {
	if e := a.refuses(); e != api.OK {
		return 0, e
	}
	if !isRoot(k) {
		return 0, api.ErrArg
	}
	return a.roots[k], api.OK
}

// SetRoot keeps it.
func (a *Action) SetRoot(k, n int) api.Errno {
	if e := a.refuses(); e != api.OK {
		return e
	}
	if !isRoot(k) || n < 0 || n > math.MaxInt32 {
		return api.ErrArg
	}
	a.roots[k] = n
	return api.OK
}

// patches are what leads from the pages, as the last finished action left them, to the drafts.
func (a *Action) patches() []patch {
	var l []patch
	for _, page := range slices.Sorted(maps.Keys(a.drafts)) { // a record, and the frames, stand in no map's order
		l = append(l, a.drafts[page].patches(page)...)
	}
	return l
}

// end lets the action be over, and be kept no longer.
func (a *Action) end() {
	a.current = nil
	a.drafts = nil
}

// Commit finishes the action: all of it is there from now on.
func (a *Action) Commit() api.Errno {
	if e := a.refuses(); e != api.OK {
		return e
	}
	l := a.patches()
	a.end()
	if len(l) == 0 && a.head == a.last {
		return api.OK // nothing is to be told of it
	}
	return a.finish(a.head, l)
}

// Abort ends it: nothing of it is.
func (a *Action) Abort() api.Errno {
	if e := a.refuses(); e != api.OK {
		return e
	}
	a.end()
	return api.OK
}
