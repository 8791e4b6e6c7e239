package inverted

import "vestibule/api"

// Below all postings the tree holds of each address, as long as it has entries, which numbers its lists have: the key is
// numbersMark and the address, the value is a bit for each number. It is as long as before when a bit is turned, so that
// no page is needed for that, and none to take an entry out.

// maxLists is how many lists an address may have.
const maxLists = 200

// numbersMark is what none of the bytes of data begin with.
const numbersMark = "\x00"

// numbers are bits in an array: which numbers are taken.
type numbers [maxLists / 8]byte

// has tells whether a number is taken.
func (l *numbers) has(n int) bool { return l[n/8]>>(n%8)&1 == 1 }

// turn takes a number that is not taken, and gives up one that is.
func (l *numbers) turn(n int) { l[n/8] ^= 1 << (n % 8) }

// free is the first number that is not taken; false, if there is none.
func (l *numbers) free() (int, bool) {
	for n := range maxLists {
		if !l.has(n) {
			return n, true
		}
	}
	return 0, false
}

// numbersKey is the tree's key of an address's numbers.
func numbersKey(tid int) string { return numbersMark + tidBytes(tid) }

// numbersOf are the numbers that the lists of an address have.
func (x *Inverted) numbersOf(tid int) *numbers {
	var l numbers
	value, _ := x.tree.Get(numbersKey(tid))
	copy(l[:], value)
	return &l
}

// turn lets a list's number be taken, if it was not, or the other way round.
func (x *Inverted) turn(at spot) api.Errno {
	l := x.numbersOf(at.tid())
	l.turn(at.number())
	if *l == (numbers{}) {
		return x.tree.Del(numbersKey(at.tid()))
	}
	_, err := x.tree.Put(numbersKey(at.tid()), string(l[:]))
	return err
}
