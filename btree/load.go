package btree

import (
	"vestibule/api"
	"vestibule/sorter"
)

// runRoom is how many entries are in hand at one time, while those of a load are sorted.
const runRoom = 1 << 10

// Load builds it out of entries in order.
func (x *Btree) Load(l []api.Entry) api.Errno {
	if err := x.refuses(); err != api.OK {
		return err
	}
	if _, ok := x.tree.From(""); ok {
		return api.ErrName
	}
	if err := refusesEntries(l...); err != api.OK {
		return err
	}
	sorted, rise := sortedOf(l)
	if !rise {
		return api.ErrArg
	}
	return x.put(sorted)
}

// sortedOf are entries that may be as the tree holds them, sorted; false, if they did not stand so, each once.
func sortedOf(l []api.Entry) ([]string, bool) {
	s, _ := sorter.New(runRoom)
	for _, e := range l {
		s.Add(heldOf(e))
	}
	sorted, _ := s.Sorted()
	for i, e := range l {
		if sorted[i] != heldOf(e) || i > 0 && sorted[i] == sorted[i-1] {
			return nil, false
		}
	}
	return sorted, true
}

// put puts all entries of an index that is empty, or none.
func (x *Btree) put(sorted []string) api.Errno {
	for _, held := range sorted {
		if _, err := x.tree.Put(held, ""); err != api.OK {
			x.tree.Drop()
			return err
		}
	}
	return api.OK
}
