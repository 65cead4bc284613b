// Package order has partial orders on few things, given by pairs: see doc/01-order.md.
package order

import "syllogist/api"

// Table returns, for each thing, the set of the things that it is below, itself included.
func Table(n int, pairs [][2]int) ([]uint32, api.Errno) {
	if e := check(n, pairs); e != api.OK {
		return nil, e
	}
	up := extend(n, pairs)
	if hasCycle(up) {
		return nil, api.ErrForm
	}
	return up, api.OK
}

// Covers returns, in increasing order, the pairs of different things of which the first is below the second with nothing between them.
func Covers(n int, pairs [][2]int) ([][2]int, api.Errno) {
	up, e := Table(n, pairs)
	if e != api.OK {
		return nil, e
	}
	down := reverse(up)
	var covers [][2]int
	for a := range n {
		for b := range n {
			if a != b && up[a]&down[b] == only(a)|only(b) {
				covers = append(covers, [2]int{a, b})
			}
		}
	}
	return covers, api.OK
}

// check finds the errors that show before the relation is extended.
func check(n int, pairs [][2]int) api.Errno {
	if n < 1 || n > api.MaxPart || len(pairs) > api.MaxPairs {
		return api.ErrLarge
	}
	for _, pair := range pairs {
		for _, thing := range pair {
			if thing < 0 || thing >= n {
				return api.ErrArg
			}
		}
	}
	return api.OK
}

// extend returns the up-sets of the reflexive and transitive relation that the pairs generate.
func extend(n int, pairs [][2]int) []uint32 {
	up := make([]uint32, n)
	for a := range up {
		up[a] = only(a)
	}
	for _, pair := range pairs {
		up[pair[0]] |= only(pair[1])
	}
	// The middle thing is the outer loop: so one pass finds all paths, whatever their length.
	for middle := range up {
		for a := range up {
			if has(up[a], middle) {
				up[a] |= up[middle]
			}
		}
	}
	return up
}

// hasCycle tells whether two different things are below each other.
func hasCycle(up []uint32) bool {
	down := reverse(up)
	for a := range up {
		if up[a]&down[a] != only(a) {
			return true
		}
	}
	return false
}

// reverse turns up-sets into down-sets: for each thing, the set of the things that are below it.
func reverse(up []uint32) []uint32 {
	down := make([]uint32, len(up))
	for a := range up {
		for b := range up {
			if has(up[a], b) {
				down[b] |= only(a)
			}
		}
	}
	return down
}

// only is the set of one thing.
func only(thing int) uint32 { return 1 << thing }

// has tells whether a thing is in a set.
func has(set uint32, thing int) bool { return set&only(thing) != 0 }
