package tidset

import (
	"maps"

	"vestibule/api"
)

// at are the places of a page that the set has.
func (s *Set) at(page int) places {
	if _, whole := s.whole[page]; whole {
		return everywhere
	}
	return s.exact[page]
}

// put puts places of a page, if it does not stand whole: all of them are in the set then.
func (s *Set) put(page int, p places) {
	if _, whole := s.whole[page]; whole {
		return
	}
	had := s.exact[page]
	s.exact[page] = had | p
	s.count += (p &^ had).count()
}

// degrade puts pages whole, while more addresses are exact than may be.
func (s *Set) degrade() {
	for s.count > s.most {
		page := s.fullest()
		s.count -= s.exact[page].count()
		delete(s.exact, page)
		s.whole[page] = struct{}{}
	}
}

// fullest is the page that has most exact addresses, of several the lowest one.
func (s *Set) fullest() int {
	page, most := 0, 0
	for other, p := range s.exact {
		if n := p.count(); n > most || n == most && other < page {
			page, most = other, n
		}
	}
	return page
}

// under is an empty set that holds as many exactly as the lesser of both may.
func under(a, b *Set) (*Set, api.Errno) {
	if !a.given() || !b.given() {
		return nil, api.ErrArg
	}
	return New(min(a.most, b.most))
}

// And is what is in both.
func And(a, b *Set) (*Set, api.Errno) {
	s, e := under(a, b)
	if e != api.OK {
		return nil, e
	}
	for page := range a.whole {
		if _, whole := b.whole[page]; whole {
			s.whole[page] = struct{}{}
		}
	}
	for _, x := range []*Set{a, b} {
		for page := range x.exact {
			if p := a.at(page) & b.at(page); p != 0 {
				s.put(page, p)
			}
		}
	}
	s.degrade()
	return s, api.OK
}

// Or is what is in either.
func Or(a, b *Set) (*Set, api.Errno) {
	s, e := under(a, b)
	if e != api.OK {
		return nil, e
	}
	maps.Copy(s.whole, a.whole)
	maps.Copy(s.whole, b.whole)
	for _, x := range []*Set{a, b} {
		for page, p := range x.exact { // all pages that stand whole are there ahead
			s.put(page, p)
		}
	}
	s.degrade()
	return s, api.OK
}
