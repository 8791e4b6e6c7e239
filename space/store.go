package space

import (
	"vestibule/api"
	"vestibule/disk"
	"vestibule/log"
	"vestibule/pool"
)

// headFile is the disk's file that has the head, as the last checkpoint left it.
const headFile = 2

// store is what a space has, and each of its actions embeds. The pool never has what an action that is not finished
// did: whatever page it lets go, the log tells already how that came about.
type store struct {
	disk    *disk.Disk
	log     *log.Log
	pool    *pool.Pool
	last    head    // as the last finished action left it
	current *Action // the one that goes on; nil, if none does
}

// restore takes up what the disk holds: what the last checkpoint left, and the records of the actions behind it.
func (s *store) restore(records []string) {
	saved, _ := s.disk.Read(headFile, 0, s.disk.Size(headFile))
	if h, ok := headOf(saved); ok {
		s.last = h
	}
	for _, r := range records {
		if h, l, ok := actionOf(r); ok {
			s.apply(h, l)
		}
	}
}

// read is a page's bytes, as the last finished action left them.
func (s *store) read(page int) string {
	// A page is pinned within a call alone, so that there is a frame for it, always.
	s.pool.Pin(page)
	b, _ := s.pool.Read(page)
	s.pool.Unpin(page)
	return b
}

// apply does what an action did. Records may be applied to pages that have some of it: bytes that one of them names
// are as the last one leaves them, others are as they always were.
func (s *store) apply(h head, l []patch) {
	for _, p := range l {
		s.pool.Pin(p.page)
		s.pool.Write(p.page, p.at, p.bytes())
		s.pool.Unpin(p.page)
	}
	s.last = h
}

// finish does what an action did, behind its record in the log.
func (s *store) finish(h head, l []patch) api.Errno {
	r := recordOf(h, l)
	e := s.log.Append(r)
	if e == api.ErrFull { // the file has no room left, but has behind a checkpoint
		s.checkpoint()
		e = s.log.Append(r)
	}
	if e != api.OK {
		return api.ErrFull
	}
	s.apply(h, l)
	return api.OK
}

// checkpoint writes all to the disk. The log is forgotten last: till then it leads there, whatever was written.
func (s *store) checkpoint() api.Errno {
	s.pool.Flush()
	s.disk.Write(headFile, 0, string(s.last.bytes()))
	return s.log.Reset()
}
