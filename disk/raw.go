package disk

import "vestibule/api"

// files are the bytes of each file of a disk.
type files [api.MaxFiles][]byte

// isFile tells whether there is a file of a number.
func isFile(file int) bool { return file >= 0 && file < api.MaxFiles }

// rawWrite is a change of files. It holds all that it takes to be done again, on other files too.
type rawWrite interface {
	do(f *files)
}

// put is the raw write of Write.
type put struct {
	file, at int
	s        string
}

func (p put) do(f *files) {
	b := f[p.file]
	if end := p.at + len(p.s); end > len(b) {
		// Noughts are written as well: behind the end may lie what Trim took away.
		b = append(b, make([]byte, end-len(b))...)
	}
	copy(b[p.at:], p.s)
	f[p.file] = b
}

// trim is the raw write of Trim.
type trim struct {
	file, size int
}

func (t trim) do(f *files) { f[t.file] = f[t.file][:t.size] }
