package pool

import (
	"vestibule/api"
	"vestibule/disk"
)

// file is the disk's file that has the pages.
const file = 1

// frame has a page's bytes.
type frame struct {
	page    int
	pins    int
	lately  bool // asked for since the clock's hand passed
	changed bool // written since the disk had it last
	bytes   [api.PageSize]byte
}

// load takes a page from the disk, in the place of whatever the frame had.
func (f *frame) load(d *disk.Disk, page int) {
	*f = frame{page: page}
	at := page * api.PageSize
	// Where the file ends ahead of the page there is nothing to read: what it does not have is noughts.
	s, _ := d.Read(file, at, min(d.Size(file)-at, api.PageSize))
	copy(f.bytes[:], s)
}

// save writes the page to the disk, if it was changed.
func (f *frame) save(d *disk.Disk) {
	if !f.changed {
		return
	}
	// A file has room for all pages, so that nothing is refused here.
	d.Write(file, f.page*api.PageSize, string(f.bytes[:]))
	f.changed = false
}
