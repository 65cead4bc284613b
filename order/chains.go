package order

import (
	"math/bits"

	"syllogist/api"
)

// none stands for a missing neighbour in a chain.
const none = -1

// Line returns the lexicographically smallest list of all things in which every thing comes before all others that it is below.
func Line(n int, pairs [][2]int) ([]int, api.Errno) {
	up, e := Table(n, pairs)
	if e != api.OK {
		return nil, e
	}
	return lineUp(up), api.OK
}

// Chain returns the longest list of different things in which each one is below the next one, and among several the lexicographically smallest.
func Chain(n int, pairs [][2]int) ([]int, api.Errno) {
	up, e := Table(n, pairs)
	if e != api.OK {
		return nil, e
	}
	lengths := chainLengths(up)
	longest := 0
	for _, length := range lengths {
		longest = max(longest, length)
	}
	chain := make([]int, 0, longest)
	allowed := only(n) - 1
	for left := longest; left > 0; left-- {
		next := firstOfLength(lengths, allowed, left)
		chain = append(chain, next)
		allowed = up[next] &^ only(next)
	}
	return chain, api.OK
}

// Apart returns the largest set of things none of which is below another one, and among several the smallest word.
func Apart(n int, pairs [][2]int) (uint32, api.Errno) {
	up, e := Table(n, pairs)
	if e != api.OK {
		return 0, e
	}
	best := uint32(0)
	for set := range only(n) {
		// Words rise, so that the first set of a size is the smallest one.
		if bits.OnesCount32(set) > bits.OnesCount32(best) && isApart(up, set) {
			best = set
		}
	}
	return best, api.OK
}

// Split returns as few chains as possible that together contain every thing exactly once.
func Split(n int, pairs [][2]int) ([][]int, api.Errno) {
	up, e := Table(n, pairs)
	if e != api.OK {
		return nil, e
	}
	return listChains(matchNeighbours(up)), api.OK
}

// lineUp places, again and again, the smallest thing below which nothing is left.
func lineUp(up []uint32) []int {
	down := reverse(up)
	line := make([]int, 0, len(up))
	placed := uint32(0)
	for range up {
		next := firstReady(down, placed)
		line = append(line, next)
		placed |= only(next)
	}
	return line
}

// firstReady finds the smallest thing that is alone left of its down-set; an order always has one while things are left.
func firstReady(down []uint32, placed uint32) int {
	for a := range down {
		if down[a]&^placed == only(a) {
			return a
		}
	}
	return none
}

// chainLengths returns, for each thing, the length of the longest chain that begins with it.
func chainLengths(up []uint32) []int {
	lengths := make([]int, len(up))
	line := lineUp(up)
	// From the end of the line, so that all that is above a thing is known before it.
	for i := len(line) - 1; i >= 0; i-- {
		a := line[i]
		above := up[a] &^ only(a)
		longest := 0
		for b := range up {
			if has(above, b) {
				longest = max(longest, lengths[b])
			}
		}
		lengths[a] = longest + 1
	}
	return lengths
}

// firstOfLength finds the smallest allowed thing with which a longest chain of that length begins.
func firstOfLength(lengths []int, allowed uint32, length int) int {
	for a := range lengths {
		if has(allowed, a) && lengths[a] == length {
			return a
		}
	}
	return none
}

// isApart tells whether no thing of the set is below another one of it.
func isApart(up []uint32, set uint32) bool {
	for a := range up {
		if has(set, a) && up[a]&set != only(a) {
			return false
		}
	}
	return true
}

// matchNeighbours returns, for each thing, the one before it in its chain, or none.
// Every match saves one chain, so that a largest matching leaves the fewest.
func matchNeighbours(up []uint32) []int {
	before := make([]int, len(up))
	for b := range before {
		before[b] = none
	}
	for a := range up {
		tried := uint32(0)
		findNext(up, before, a, &tried)
	}
	return before
}

// findNext gives a thing a next one, where needed by moving earlier matches to other things.
func findNext(up []uint32, before []int, a int, tried *uint32) bool {
	for b := range up {
		if a == b || !has(up[a]&^*tried, b) {
			continue
		}
		*tried |= only(b)
		if before[b] == none || findNext(up, before, before[b], tried) {
			before[b] = a
			return true
		}
	}
	return false
}

// listChains lists the chains, by the things that they begin with.
func listChains(before []int) [][]int {
	after := make([]int, len(before))
	for a := range after {
		after[a] = none
	}
	for b, a := range before {
		if a != none {
			after[a] = b
		}
	}
	var chains [][]int
	for b, a := range before {
		if a == none {
			chains = append(chains, walk(after, b))
		}
	}
	return chains
}

// walk lists a chain from its first thing on.
func walk(after []int, first int) []int {
	var chain []int
	for a := first; a != none; a = after[a] {
		chain = append(chain, a)
	}
	return chain
}
