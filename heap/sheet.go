package heap

import (
	"iter"

	"vestibule/api"
)

// A sheet's page begins with a byte that says how many rows it holds. They follow, in the order of their places, each
// with two bytes ahead: its place, six bits; whether it is dead, one; how many bytes it has, nine. The rest of the page
// is noughts.
const (
	sheetHead = 1
	rowHead   = 2
	placeBit  = 10 // the first bit of the place
	deadBit   = 9
	lengths   = 1<<deadBit - 1
)

// place is where a row may stand: without a row it is zero.
type place struct {
	row  string
	dead bool
}

// holds tells whether a row stands there.
func (p place) holds() bool { return p.row != "" }

// sheet is the rows of a page, by their places.
type sheet struct {
	page   int
	places [api.Slots]place
}

// load is the sheet that stands on a page; nil, if there is no such page.
func (h *Heap) load(page int) *sheet {
	b, e := h.action.Read(page)
	if e != api.OK {
		return nil
	}
	return sheetOf(page, b)
}

// sheets are those on pages with at least such a mark, rising.
func (h *Heap) sheets(least int) iter.Seq[*sheet] {
	return func(visit func(s *sheet) bool) {
		for page := range h.marked(least) {
			if s := h.load(page); s != nil && !visit(s) {
				return
			}
		}
	}
}

// sheetOf is the sheet that is read from a page's bytes: as far as there are rows.
func sheetOf(page int, b string) *sheet {
	s := &sheet{page: page}
	at := sheetHead
	for range b[0] {
		if at+rowHead > len(b) {
			break
		}
		head := int(b[at])<<8 | int(b[at+1])
		at += rowHead
		end := at + head&lengths
		if end > len(b) {
			break
		}
		if end > at {
			s.places[head>>placeBit] = place{b[at:end], head>>deadBit&1 == 1}
		}
		at = end
	}
	return s
}

// text is the page's bytes with the sheet on them.
func (s *sheet) text() string {
	b := make([]byte, sheetHead, api.PageSize)
	for at, p := range s.places {
		if !p.holds() {
			continue
		}
		head := at<<placeBit | len(p.row)
		if p.dead {
			head |= 1 << deadBit
		}
		b[0]++
		b = append(b, byte(head>>8), byte(head))
		b = append(b, p.row...)
	}
	return string(b[:api.PageSize])
}

// tid is the address of a place.
func (s *sheet) tid(at int) int { return s.page*api.Slots + at }

// spare is the first place without a row; Slots, if there is none.
func (s *sheet) spare() int {
	for at, p := range s.places {
		if !p.holds() {
			return at
		}
	}
	return api.Slots
}

// sizeOf is how many bytes a row takes.
func sizeOf(row string) int { return rowHead + len(row) }

// size is how many bytes the sheet takes.
func (s *sheet) size() int {
	sum := sheetHead
	for _, p := range s.places {
		if p.holds() {
			sum += sizeOf(p.row)
		}
	}
	return sum
}

// room is how many bytes are left for another row: none, where no place is.
func (s *sheet) room() int {
	if s.spare() == api.Slots {
		return 0
	}
	return api.PageSize - s.size()
}
