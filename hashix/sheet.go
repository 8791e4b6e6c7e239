package hashix

import (
	"iter"

	"vestibule/api"
)

// A bucket's entries stand on a chain of pages, each of which holds one at least, so that there are no more such pages
// than entries. A page holds the number of the next one, 0 behind the last, and its entries, each behind a byte that says
// how long it is; a byte 0 stands behind the last one, if there is room.
const linkWidth = 2

// sheet is a page of a bucket; its body are the bytes of its entries, which stand there each behind its length.
type sheet struct {
	page, next int
	body       string
}

// bodyRoom is how long a body may be.
const bodyRoom = api.PageSize - linkWidth

// linkIn is the number of a page that stands somewhere in bytes.
func linkIn(b string, at int) int { return int(b[at])<<8 | int(b[at+1]) }

// sizeOf is how much room an entry takes.
func sizeOf(held string) int { return 1 + len(held) }

// hasRoom tells whether there is room for one entry more.
func (s *sheet) hasRoom(held string) bool { return len(s.body)+sizeOf(held) <= bodyRoom }

// add puts an entry for which there is room.
func (s *sheet) add(held string) { s.body += string([]byte{byte(len(held))}) + held }

// cut takes out the entry that stands somewhere.
func (s *sheet) cut(at int) { s.body = s.body[:at] + s.body[entryEnd(s.body, at):] }

// find is where an entry stands; false, if it does not.
func (s *sheet) find(held string) (int, bool) {
	for at, h := range s.entries() {
		if h == held {
			return at, true
		}
	}
	return 0, false
}

// entries goes along the entries, and where they stand.
func (s *sheet) entries() iter.Seq2[int, string] {
	return func(visit func(at int, held string) bool) {
		for at := 0; at < len(s.body); {
			end := entryEnd(s.body, at)
			if !visit(at, s.body[at+1:end]) {
				return
			}
			at = end
		}
	}
}

// entryEnd is where the entry that stands somewhere in bytes ends.
func entryEnd(b string, at int) int { return min(at+1+int(b[at]), len(b)) }

// sheetOf is the sheet whose bytes these are.
func sheetOf(page int, b string) *sheet {
	rest := b[linkWidth:]
	end := 0
	for end < len(rest) && rest[end] != 0 {
		end = entryEnd(rest, end)
	}
	return &sheet{page: page, next: linkIn(b, 0), body: rest[:end]}
}

// bytes are those of the sheet's page.
func (s *sheet) bytes() string {
	b := make([]byte, 0, api.PageSize)
	b = append(b, byte(s.next>>8), byte(s.next))
	b = append(b, s.body...)
	return string(b[:api.PageSize])
}

// write writes a sheet to its page.
func (x *Hash) write(s *sheet) { x.action.Write(s.page, 0, s.bytes()) }

// sheets goes along those of a bucket.
func (x *Hash) sheets(t *table, bucket int) iter.Seq[*sheet] {
	return x.along(t, t.firsts[bucket:bucket+1])
}

// all goes along those of all buckets.
func (x *Hash) all(t *table) iter.Seq[*sheet] { return x.along(t, t.firsts[:]) }

// along goes along the sheets of the chains that begin at these pages. Where one leads to no page, or to one that was
// there already, it is left for the next one: so it ends, whatever stands on the pages.
func (x *Hash) along(t *table, firsts []int) iter.Seq[*sheet] {
	return func(visit func(s *sheet) bool) {
		var seen [api.MaxPages]bool
		seen[t.page] = true
	buckets:
		for _, page := range firsts {
			for page != 0 {
				b, err := x.action.Read(page)
				if err != api.OK || seen[page] {
					continue buckets
				}
				seen[page] = true
				s := sheetOf(page, b)
				if !visit(s) {
					return
				}
				page = s.next
			}
		}
	}
}
