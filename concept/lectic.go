package concept

import "syllogist/api"

// Next returns the first set in the lectic order, after marks, that is the set of attributes of a concept.
func Next(n int, rows []uint32, marks uint32) (uint32, api.Errno) {
	if e := check(n, rows, marks); e != api.OK {
		return 0, e
	}
	found, ok := next(n, rows, marks)
	if !ok {
		return 0, api.ErrNone
	}
	return found, api.OK
}

// next is Next for arguments that were checked.
// A set that comes after marks has some attribute that marks lacks, and is the same below it.
// The greater that attribute, the earlier the set: so the first that will do is the answer.
func next(n int, rows []uint32, marks uint32) (uint32, bool) {
	for first := n - 1; first >= 0; first-- {
		if marks&only(first) != 0 {
			continue
		}
		below := marks & all(first)
		found := grow(n, rows, below|only(first))
		if found&all(first) == below {
			return found, true
		}
	}
	return 0, false
}
