package heap

import (
	"iter"

	"vestibule/api"
)

// A heap's charts have a mark of four bits for each page that the space may have: whether a sheet of the heap stands on
// it, and, if so, how much room it has at least. So a row finds its page without the others being read, and of an address
// it is known whether it is the heap's, whatever stands there.
//
// The root's number is the first chart's page. Each chart begins with chartHead bytes: in those of the first one stand
// the numbers of the others' pages; each of these comes when a page is taken of which it tells, and stays. Marks of eight
// bits would take nine charts, and a heap stands on no more than eight pages beside as many as it holds rows.
const (
	linkWidth = 2
	chartHead = linkWidth * (charts - 1)
	charts    = 5
	marksOn   = 2 * (api.PageSize - chartHead) // how many marks a chart has: all charts have MaxPages at least
	markBits  = 4
	markMask  = 1<<markBits - 1
)

// The marks: of a page without a sheet; the least one of a page with one. Those above it stand for grain bytes of room
// each, so that the greatest one tells of a sheet without rows.
const (
	noMark   = 0
	someMark = 1
	grain    = api.PageSize / (markMask - someMark)
)

// markOf is the mark of a sheet that has so much room.
func markOf(room int) int { return someMark + room/grain }

// chart is a chart's page, and its bytes; 0, if there is none.
func (h *Heap) chart(k int) (int, string) {
	page, _ := h.action.Root(h.root)
	b, e := h.action.Read(page)
	if k > 0 && e == api.OK {
		at := linkAt(k)
		page = int(b[at])<<8 | int(b[at+1])
		b, e = h.action.Read(page)
	}
	if e != api.OK {
		return 0, ""
	}
	return page, b
}

// linkAt is where the number of a chart's page stands on the first chart.
func linkAt(k int) int { return linkWidth * (k - 1) }

// lay lets there be a chart; false, if no page is left for it: then nothing is changed.
func (h *Heap) lay(k int) bool {
	if page, _ := h.chart(k); page != 0 {
		return true
	}
	page, e := h.action.Alloc()
	if e != api.OK {
		return false
	}
	if k == 0 {
		h.action.SetRoot(h.root, page)
		return true
	}
	if !h.lay(0) {
		h.action.Free(page)
		return false
	}
	first, _ := h.chart(0)
	h.action.Write(first, linkAt(k), string([]byte{byte(page >> 8), byte(page)}))
	return true
}

// spot is where, in a chart's bytes, a mark stands, and from which bit on.
func spot(at int) (int, int) { return chartHead + at/2, at % 2 * markBits }

// markIn is a mark of a chart.
func markIn(b string, at int) int {
	i, bit := spot(at)
	return int(b[i]>>bit) & markMask
}

// mark is a page's mark.
func (h *Heap) mark(page int) int {
	if page >= api.MaxPages {
		return noMark
	}
	chart, b := h.chart(page / marksOn)
	if chart == 0 {
		return noMark
	}
	return markIn(b, page%marksOn)
}

// setMark sets a page's mark.
func (h *Heap) setMark(page, mark int) {
	chart, b := h.chart(page / marksOn)
	if chart == 0 || markIn(b, page%marksOn) == mark {
		return
	}
	i, bit := spot(page % marksOn)
	h.action.Write(chart, i, string([]byte{b[i]&^(markMask<<bit) | byte(mark<<bit)}))
}

// marked are the pages with at least such a mark, rising.
func (h *Heap) marked(least int) iter.Seq[int] {
	return func(visit func(page int) bool) {
		for k := range charts {
			chart, b := h.chart(k)
			if chart == 0 {
				continue
			}
			for at := range marksOn {
				if markIn(b, at) >= least && !visit(k*marksOn+at) {
					return
				}
			}
		}
	}
}
