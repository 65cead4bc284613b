package downs

import (
	"slices"
	"testing"

	"syllogist/api"
)

// The functions of this file follow the document's words alone, and share no code with the program.

// reach tells for each two things whether the first is below the second.
func reach(n int, pairs [][2]int) [][]bool {
	below := make([][]bool, n)
	for a := range below {
		below[a] = make([]bool, n)
		visit(pairs, below[a], a)
	}
	return below
}

func visit(pairs [][2]int, seen []bool, a int) {
	if seen[a] {
		return
	}
	seen[a] = true
	for _, pair := range pairs {
		if pair[0] == a {
			visit(pairs, seen, pair[1])
		}
	}
}

func cyclic(below [][]bool) bool {
	for a := range below {
		for b := range a {
			if below[a][b] && below[b][a] {
				return true
			}
		}
	}
	return false
}

func contains(s uint32, a int) bool { return s>>a%2 == 1 }

func isDown(below [][]bool, s uint32) bool {
	for a := range below {
		for b := range below {
			if below[a][b] && contains(s, b) && !contains(s, a) {
				return false
			}
		}
	}
	return true
}

func wantSets(below [][]bool) []uint32 {
	sets := []uint32{}
	for s := uint32(0); s < 1<<len(below); s++ {
		if isDown(below, s) {
			sets = append(sets, s)
		}
	}
	return sets
}

// wantFill takes the down-set that includes s and that every other such down-set includes.
func wantFill(sets []uint32, s uint32) uint32 {
	least := sets[len(sets)-1]
	for _, d := range sets {
		if d&s == s && d&least == d {
			least = d
		}
	}
	return least
}

func wantEdge(below [][]bool, s uint32) uint32 {
	edge := uint32(0)
	for a := range below {
		is := contains(s, a)
		for b := range below {
			is = is && (a == b || !contains(s, b) || !below[a][b])
		}
		if is {
			edge += 1 << a
		}
	}
	return edge
}

func compare(t *testing.T, n int, pairs [][2]int) {
	t.Helper()
	below := reach(n, pairs)
	if cyclic(below) {
		if got := callAll(n, pairs, 1<<n); !same(got, failed(api.ErrForm)) {
			t.Fatalf("%d %v: %+v, want ErrForm", n, pairs, got)
		}
		return
	}
	sets := wantSets(below)
	if all, e := All(n, pairs); e != api.OK || !slices.Equal(all, sets) {
		t.Fatalf("All(%d, %v) = %v, %d, want %v", n, pairs, all, e, sets)
	}
	if many, e := Many(n, pairs); e != api.OK || many != len(sets) {
		t.Fatalf("Many(%d, %v) = %d, %d, want %d", n, pairs, many, e, len(sets))
	}
	for s := uint32(0); s < 1<<n; s++ {
		compareSet(t, n, pairs, s, wantFill(sets, s), wantEdge(below, s))
	}
}

func compareSet(t *testing.T, n int, pairs [][2]int, s, fill, edge uint32) {
	t.Helper()
	if got, e := Fill(n, pairs, s); e != api.OK || got != fill {
		t.Fatalf("Fill(%d, %v, %d) = %d, %d, want %d", n, pairs, s, got, e, fill)
	}
	want := api.OK
	if fill != s {
		edge, want = 0, api.ErrForm
	}
	if got, e := Edge(n, pairs, s); got != edge || e != want {
		t.Fatalf("Edge(%d, %v, %d) = %d, %d, want %d, %d", n, pairs, s, got, e, edge, want)
	}
}

// pick takes the pairs whose bits are in the word, each thing under another number.
func pick(all [][2]int, word int, names []int) [][2]int {
	var pairs [][2]int
	for i, pair := range all {
		if word>>i&1 == 1 {
			pairs = append(pairs, [2]int{names[pair[0]], names[pair[1]]})
		}
	}
	return pairs
}

// listPairs lists the pairs of which the first is less, or all of them.
func listPairs(n int, rising bool) [][2]int {
	var pairs [][2]int
	for a := range n {
		for b := range n {
			if a < b || !rising {
				pairs = append(pairs, [2]int{a, b})
			}
		}
	}
	return pairs
}

func TestAllRelationsOfThree(t *testing.T) {
	for n := 1; n <= 3; n++ {
		all := listPairs(n, false)
		for word := range 1 << len(all) {
			compare(t, n, pick(all, word, []int{0, 1, 2}))
		}
	}
}

// TestAllOrders goes through all orders of four to six things, up to their names;
// the names change from one to the next, so that the results do not rest on rising pairs.
func TestAllOrders(t *testing.T) {
	names := [][]int{{0, 1, 2, 3, 4, 5}, {5, 4, 3, 2, 1, 0}, {2, 0, 3, 1, 5, 4}, {3, 5, 0, 4, 2, 1}, {1, 2, 4, 5, 0, 3}}
	for n := 4; n <= api.MaxPart; n++ {
		all := listPairs(n, true)
		for word := range 1 << len(all) {
			row := slices.Clone(names[word%len(names)])
			compare(t, n, pick(all, word, slices.DeleteFunc(row, func(name int) bool { return name >= n })))
		}
	}
}
