package space

import "vestibule/api"

// draft is a page that an action changes.
type draft struct {
	fresh    bool // Alloc gave it: whatever finished actions left there, it was all noughts
	was, now [api.PageSize]byte
}

// draftOf is a draft of a page that reads so.
func draftOf(bytes string) *draft {
	d := &draft{}
	copy(d.was[:], bytes)
	d.now = d.was
	return d
}

// stretch is places of a page, from one up to another that is none of them.
type stretch struct {
	from, to int
}

// changed are the stretches in which the draft is not as it was. Two make one, where the bytes between take no more
// room than a second patch would.
func (d *draft) changed() []stretch {
	var l []stretch
	for i := range d.now {
		switch n := len(l); {
		case d.now[i] == d.was[i]:
		case n > 0 && i-l[n-1].to <= patchHead:
			l[n-1].to = i + 1
		default:
			l = append(l, stretch{i, i + 1})
		}
	}
	return l
}

// patches are what leads from the page, as finished actions left it, to the draft.
func (d *draft) patches(page int) []patch {
	var l []patch
	if d.fresh {
		l = append(l, patch{page: page})
	}
	for _, x := range d.changed() {
		l = append(l, patch{page, x.from, string(d.now[x.from:x.to])})
	}
	return l
}
