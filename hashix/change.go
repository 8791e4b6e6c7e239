package hashix

import "vestibule/api"

// put puts an entry into its bucket, and lets the buckets be as many as they are.
func (x *Hash) put(held string) api.Errno {
	t := x.table()
	bucket, _ := t.bucketOfHeld(held)
	var roomy *sheet
	for s := range x.sheets(t, bucket) {
		if _, ok := s.find(held); ok {
			return api.ErrName
		}
		if roomy == nil && s.hasRoom(held) {
			roomy = s
		}
	}
	if roomy == nil {
		roomy = x.grow(t, bucket)
	}
	if roomy == nil {
		return api.ErrFull
	}
	roomy.add(held)
	x.write(roomy)
	t.count++
	x.keep(t)
	return api.OK
}

// grow is a new sheet, the first one of a bucket; nil, if no page is left for it: then nothing is changed.
func (x *Hash) grow(t *table, bucket int) *sheet {
	need := 1
	if t.page == 0 {
		need = 2
	}
	pages, ok := x.alloc(need)
	if !ok {
		return nil
	}
	if t.page == 0 {
		t.page = pages[1]
		x.action.SetRoot(x.root, t.page)
	}
	s := &sheet{page: pages[0], next: t.firsts[bucket]}
	t.firsts[bucket] = s.page
	return s
}

// take takes an entry out of its bucket, and frees its page, if it was the last one there.
func (x *Hash) take(held string) api.Errno {
	t := x.table()
	bucket, _ := t.bucketOfHeld(held)
	var ahead *sheet
	for s := range x.sheets(t, bucket) {
		if at, ok := s.find(held); ok {
			s.cut(at)
			x.shrink(t, bucket, ahead, s)
			t.count--
			x.keep(t)
			return api.OK
		}
		ahead = s
	}
	return api.ErrNone
}

// shrink writes a sheet that has less, or takes it out of its bucket, if it has nothing any more; ahead of it is another
// one, or nil.
func (x *Hash) shrink(t *table, bucket int, ahead, s *sheet) {
	if s.body != "" {
		x.write(s)
		return
	}
	if ahead == nil {
		t.firsts[bucket] = s.next
	} else {
		ahead.next = s.next
		x.write(ahead)
	}
	x.free([]int{s.page})
}

// split lets there be one more bucket, and deals out the entries of the one that is split; false, if no page is left for
// them: then nothing is changed.
func (x *Hash) split() bool {
	t := x.table()
	from, to := t.nextSplit(), t.buckets
	t.buckets++
	var pages []int
	var stay, move []string
	for s := range x.sheets(t, from) {
		pages = append(pages, s.page)
		for _, held := range s.entries() {
			if bucket, ok := t.bucketOfHeld(held); ok && bucket == to {
				move = append(move, held)
			} else {
				stay = append(stay, held)
			}
		}
	}
	old, young := packed(stay), packed(move)
	more, ok := x.alloc(len(old) + len(young) - len(pages))
	if !ok {
		return false
	}
	pages = append(pages, more...)
	pages = x.lay(t, from, old, pages)
	pages = x.lay(t, to, young, pages)
	x.free(pages)
	x.keep(t)
	return true
}

// packed are sheets that hold entries, without pages yet.
func packed(l []string) []*sheet {
	var sheets []*sheet
	var s *sheet
	for _, held := range l {
		if s == nil || !s.hasRoom(held) {
			s = &sheet{}
			sheets = append(sheets, s)
		}
		s.add(held)
	}
	return sheets
}

// lay makes sheets a bucket's, on the first ones of these pages, and tells those that are left.
func (x *Hash) lay(t *table, bucket int, l []*sheet, pages []int) []int {
	t.firsts[bucket] = 0
	for i, s := range l {
		s.page, s.next = pages[i], t.firsts[bucket]
		t.firsts[bucket] = s.page
		x.write(s)
	}
	return pages[len(l):]
}

// alloc takes so many pages; false, if there are not so many: then it takes none.
func (x *Hash) alloc(n int) ([]int, bool) {
	var pages []int
	for range n {
		page, err := x.action.Alloc()
		if err != api.OK {
			x.free(pages)
			return nil, false
		}
		pages = append(pages, page)
	}
	return pages, true
}

// free gives pages back.
func (x *Hash) free(pages []int) {
	for _, page := range pages {
		x.action.Free(page)
	}
}
