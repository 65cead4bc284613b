package order

import (
	"math/bits"
	"slices"
	"testing"

	"syllogist/api"
)

// The functions of this file search all candidates, by the document's words alone, and share no code with the program.

// reach tells for each two things whether the first is below the second.
func reach(n int, pairs [][2]int) [][]bool {
	below := make([][]bool, n)
	for a := range below {
		below[a] = make([]bool, n)
		visit(pairs, below[a], a)
	}
	return below
}

func visit(pairs [][2]int, seen []bool, a int) {
	if seen[a] {
		return
	}
	seen[a] = true
	for _, pair := range pairs {
		if pair[0] == a {
			visit(pairs, seen, pair[1])
		}
	}
}

func cyclic(below [][]bool) bool {
	for a := range below {
		for b := range a {
			if below[a][b] && below[b][a] {
				return true
			}
		}
	}
	return false
}

func wantTable(below [][]bool) []uint32 {
	table := make([]uint32, len(below))
	for a := range below {
		for b, is := range below[a] {
			if is {
				table[a] += 1 << b
			}
		}
	}
	return table
}

func wantCovers(below [][]bool) [][2]int {
	var covers [][2]int
	for a := range below {
		for b := range below {
			between := false
			for c := range below {
				between = between || c != a && c != b && below[a][c] && below[c][b]
			}
			if a != b && below[a][b] && !between {
				covers = append(covers, [2]int{a, b})
			}
		}
	}
	return covers
}

// orderings yields all lists of different things, in lexicographical order.
func orderings(n int, list []int, yield func([]int)) {
	yield(list)
	for a := range n {
		if !slices.Contains(list, a) {
			orderings(n, append(slices.Clone(list), a), yield)
		}
	}
}

func wantLine(below [][]bool) []int {
	var best []int
	orderings(len(below), nil, func(list []int) {
		if best != nil || len(list) < len(below) {
			return
		}
		for i := range list {
			for j := range i {
				if below[list[i]][list[j]] {
					return
				}
			}
		}
		best = list
	})
	return best
}

func wantChain(below [][]bool) []int {
	var best []int
	orderings(len(below), nil, func(list []int) {
		if len(list) > len(best) && isChain(below, list) {
			best = list
		}
	})
	return best
}

func isChain(below [][]bool, list []int) bool {
	for i := 1; i < len(list); i++ {
		if list[i-1] == list[i] || !below[list[i-1]][list[i]] {
			return false
		}
	}
	return len(list) > 0
}

func wantApart(below [][]bool) uint32 {
	best := uint32(0)
	for set := uint32(1)<<len(below) - 1; set > 0; set-- {
		apart := true
		for a := range below {
			for b := range below {
				both := set>>a&1 == 1 && set>>b&1 == 1
				apart = apart && !(both && a != b && below[a][b])
			}
		}
		if apart && bits.OnesCount32(set) >= bits.OnesCount32(best) {
			best = set
		}
	}
	return best
}

// fewestChains tries all ways to put things into groups each two things of which can be compared.
func fewestChains(below [][]bool, thing int, groups [][]int) int {
	if thing == len(below) {
		return len(groups)
	}
	best := fewestChains(below, thing+1, append(slices.Clone(groups), []int{thing}))
	for i, group := range groups {
		fits := true
		for _, other := range group {
			fits = fits && (below[thing][other] || below[other][thing])
		}
		if fits {
			more := slices.Clone(groups)
			more[i] = append(slices.Clone(group), thing)
			best = min(best, fewestChains(below, thing+1, more))
		}
	}
	return best
}

// splits tells whether the chains contain every thing once.
func splits(n int, below [][]bool, chains [][]int) bool {
	count := make([]int, n)
	for _, chain := range chains {
		if !isChain(below, chain) {
			return false
		}
		for _, a := range chain {
			count[a]++
		}
	}
	return !slices.ContainsFunc(count, func(c int) bool { return c != 1 })
}

func compare(t *testing.T, n int, pairs [][2]int) {
	t.Helper()
	got := callAll(n, pairs)
	below := reach(n, pairs)
	if cyclic(below) {
		if !got.hasErr(api.ErrForm) || !got.isZero() {
			t.Fatalf("%d %v: %+v, want ErrForm", n, pairs, got)
		}
		return
	}
	if !got.hasErr(api.OK) {
		t.Fatalf("%d %v: errors %v", n, pairs, got.errs)
	}
	if want := wantTable(below); !slices.Equal(got.table, want) {
		t.Fatalf("Table(%d, %v) = %v, want %v", n, pairs, got.table, want)
	}
	if want := wantCovers(below); !slices.Equal(got.covers, want) {
		t.Fatalf("Covers(%d, %v) = %v, want %v", n, pairs, got.covers, want)
	}
	if want := wantLine(below); !slices.Equal(got.line, want) {
		t.Fatalf("Line(%d, %v) = %v, want %v", n, pairs, got.line, want)
	}
	if want := wantChain(below); !slices.Equal(got.chain, want) {
		t.Fatalf("Chain(%d, %v) = %v, want %v", n, pairs, got.chain, want)
	}
	if want := wantApart(below); got.apart != want {
		t.Fatalf("Apart(%d, %v) = %v, want %v", n, pairs, got.apart, want)
	}
	if want := fewestChains(below, 0, nil); len(got.split) != want || !splits(n, below, got.split) {
		t.Fatalf("Split(%d, %v) = %v, want %d chains", n, pairs, got.split, want)
	}
}

// allPairs lists the pairs of n things, those of equal things last.
func allPairs(n int) [][2]int {
	var different, equal [][2]int
	for a := range n {
		equal = append(equal, [2]int{a, a})
		for b := range n {
			if a != b {
				different = append(different, [2]int{a, b})
			}
		}
	}
	return append(different, equal...)
}

func choose(all [][2]int, word int) [][2]int {
	var pairs [][2]int
	for i, pair := range all {
		if word>>i&1 == 1 {
			pairs = append(pairs, pair)
		}
	}
	return pairs
}

func TestAllSmallRelations(t *testing.T) {
	for n := 1; n <= 3; n++ {
		all := allPairs(n)
		for word := range 1 << len(all) {
			compare(t, n, choose(all, word))
		}
	}
	different := allPairs(4)[:12]
	for word := range 1 << len(different) {
		compare(t, 4, choose(different, word))
	}
}

// TestManyLargerRelations draws relations by a fixed rule; most pairs follow a hidden line, so that few of them are cyclic.
func TestManyLargerRelations(t *testing.T) {
	state := uint64(1)
	draw := func(limit int) int {
		state = state*6364136223846793005 + 1442695040888963407
		return int(state>>33) % limit
	}
	for range 3000 {
		n := 5 + draw(2)
		hidden := []int{0, 1, 2, 3, 4, 5}[:n]
		for i := range hidden {
			j := draw(i + 1)
			hidden[i], hidden[j] = hidden[j], hidden[i]
		}
		var pairs [][2]int
		for range draw(9) {
			a, b := draw(n), draw(n)
			if draw(30) > 0 {
				a, b = min(a, b), max(a, b)
			}
			pairs = append(pairs, [2]int{hidden[a], hidden[b]})
		}
		compare(t, n, pairs)
	}
}
