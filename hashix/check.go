package hashix

import "slices"

// stands tells whether an index stands as it must: its table's page holds nothing else, there are as many buckets and
// entries as it says, and each bucket stands as it must.
func (x *Hash) stands() bool {
	if root, _ := x.action.Root(x.root); root == 0 {
		return true
	}
	t := x.table()
	if b, _ := x.action.Read(t.page); b != t.bytes() || t.isDense() {
		return false
	}
	count := 0
	for bucket := range t.buckets {
		n, ok := x.bucketStands(t, bucket)
		if !ok {
			return false
		}
		count += n
	}
	return count == t.count
}

// bucketStands tells how many entries a bucket has, and whether it stands as it must: each link leads to a sheet of its
// own, on which entries of this bucket stand and nothing else, each entry once.
func (x *Hash) bucketStands(t *table, bucket int) (int, bool) {
	links, sheets := linksOf(t.firsts[bucket]), 0
	var all []string
	for s := range x.sheets(t, bucket) {
		links += linksOf(s.next)
		sheets++
		if b, _ := x.action.Read(s.page); b != s.bytes() || s.body == "" {
			return 0, false
		}
		for _, held := range s.entries() {
			if own, ok := t.bucketOfHeld(held); !ok || own != bucket {
				return 0, false
			}
			all = append(all, held)
		}
	}
	slices.Sort(all)
	return len(all), links == sheets && len(slices.Compact(all)) == len(all)
}

// linksOf is how many pages a link leads to.
func linksOf(page int) int { return min(page, 1) }
