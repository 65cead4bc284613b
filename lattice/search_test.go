package lattice

import (
	"slices"
	"testing"

	"syllogist/api"
)

// The functions of this file follow the document's words alone, and share no code with the program.

const absent = -1

// reach tells for each two things whether the first is below the second.
func reach(n int, pairs [][2]int) [][]bool {
	below := make([][]bool, n)
	for a := range below {
		below[a] = make([]bool, n)
		visit(pairs, below[a], a)
	}
	return below
}

func visit(pairs [][2]int, seen []bool, a int) {
	if seen[a] {
		return
	}
	seen[a] = true
	for _, pair := range pairs {
		if pair[0] == a {
			visit(pairs, seen, pair[1])
		}
	}
}

func cyclic(below [][]bool) bool {
	for a := range below {
		for b := range a {
			if below[a][b] && below[b][a] {
				return true
			}
		}
	}
	return false
}

// wantJoin looks for a thing that both are below and that is below every thing that both are below.
func wantJoin(below [][]bool, a, b int) int {
	for c := range below {
		is := below[a][c] && below[b][c]
		for d := range below {
			is = is && (below[c][d] || !below[a][d] || !below[b][d])
		}
		if is {
			return c
		}
	}
	return absent
}

func flip(below [][]bool) [][]bool {
	above := make([][]bool, len(below))
	for a := range above {
		for b := range below {
			above[a] = append(above[a], below[b][a])
		}
	}
	return above
}

// grids lists the joins and the meets of each two things.
func grids(below [][]bool) (joins, meets [][]int) {
	above := flip(below)
	for a := range below {
		joins, meets = append(joins, nil), append(meets, nil)
		for b := range below {
			joins[a] = append(joins[a], wantJoin(below, a, b))
			meets[a] = append(meets[a], wantJoin(above, a, b))
		}
	}
	return joins, meets
}

func wantLaw(below [][]bool, joins, meets [][]int, onlyBelow bool) bool {
	for a := range below {
		for b := range below {
			for c := range below {
				left := meets[a][joins[b][c]]
				right := joins[meets[a][b]][meets[a][c]]
				if left != right && (below[c][a] || !onlyBelow) {
					return false
				}
			}
		}
	}
	return true
}

func wantIrreducible(below [][]bool, joins [][]int) uint32 {
	set := uint32(0)
	for a := range below {
		is := slices.Contains(below[a], false)
		for b := range below {
			for c := range below {
				is = is && (joins[b][c] != a || b == a || c == a)
			}
		}
		if is {
			set += 1 << a
		}
	}
	return set
}

// wantAll is what callAll returns for the things 0 and 0.
func wantAll(below [][]bool, joins, meets [][]int) result {
	missing := func(row []int) bool { return slices.Contains(row, absent) }
	if slices.ContainsFunc(joins, missing) || slices.ContainsFunc(meets, missing) {
		return result{errs: [6]api.Errno{0, 0, 0, api.ErrForm, api.ErrForm, api.ErrForm}}
	}
	return result{
		is:          true,
		shared:      wantLaw(below, joins, meets, false),
		modular:     wantLaw(below, joins, meets, true),
		irreducible: wantIrreducible(below, joins),
	}
}

func bounded(thing int) (int, api.Errno) {
	if thing == absent {
		return 0, api.ErrNone
	}
	return thing, api.OK
}

func compare(t *testing.T, n int, pairs [][2]int) {
	t.Helper()
	below := reach(n, pairs)
	if cyclic(below) {
		if got := callAll(n, pairs, 0, n); got != failed(api.ErrForm) {
			t.Fatalf("%d %v: %+v, want ErrForm", n, pairs, got)
		}
		return
	}
	joins, meets := grids(below)
	if got, want := callAll(n, pairs, 0, 0), wantAll(below, joins, meets); got != want {
		t.Fatalf("%d %v: %+v, want %+v", n, pairs, got, want)
	}
	for a := range n {
		for b := range n {
			compareBounds(t, n, pairs, a, b, joins[a][b], meets[a][b])
		}
	}
}

func compareBounds(t *testing.T, n int, pairs [][2]int, a, b, join, meet int) {
	t.Helper()
	want, wantErr := bounded(join)
	if got, e := Join(n, pairs, a, b); got != want || e != wantErr {
		t.Fatalf("Join(%d, %v, %d, %d) = %d, %d, want %d, %d", n, pairs, a, b, got, e, want, wantErr)
	}
	want, wantErr = bounded(meet)
	if got, e := Meet(n, pairs, a, b); got != want || e != wantErr {
		t.Fatalf("Meet(%d, %v, %d, %d) = %d, %d, want %d, %d", n, pairs, a, b, got, e, want, wantErr)
	}
}

// pick takes the pairs whose bits are in the word, each thing under another number.
func pick(all [][2]int, word int, names []int) [][2]int {
	var pairs [][2]int
	for i, pair := range all {
		if word>>i&1 == 1 {
			pairs = append(pairs, [2]int{names[pair[0]], names[pair[1]]})
		}
	}
	return pairs
}

// listPairs lists the pairs of which the first is less, or all of them.
func listPairs(n int, rising bool) [][2]int {
	var pairs [][2]int
	for a := range n {
		for b := range n {
			if a < b || !rising {
				pairs = append(pairs, [2]int{a, b})
			}
		}
	}
	return pairs
}

func TestAllRelationsOfThree(t *testing.T) {
	for n := 1; n <= 3; n++ {
		all := listPairs(n, false)
		for word := range 1 << len(all) {
			compare(t, n, pick(all, word, []int{0, 1, 2}))
		}
	}
}

// TestAllOrders goes through all orders of four to six things, up to their names;
// the names change from one to the next, so that the results do not rest on rising pairs.
func TestAllOrders(t *testing.T) {
	names := [][]int{{0, 1, 2, 3, 4, 5}, {5, 4, 3, 2, 1, 0}, {2, 0, 3, 1, 5, 4}, {3, 5, 0, 4, 2, 1}, {1, 2, 4, 5, 0, 3}}
	for n := 4; n <= api.MaxPart; n++ {
		all := listPairs(n, true)
		for word := range 1 << len(all) {
			row := slices.Clone(names[word%len(names)])
			compare(t, n, pick(all, word, slices.DeleteFunc(row, func(name int) bool { return name >= n })))
		}
	}
}
