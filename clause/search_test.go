package clause

import (
	"slices"
	"testing"

	"syllogist/api"
)

// The functions of this file follow the document's words alone, and share no code with the program.

func holds(c api.Clause, s int) bool {
	for variable := range 32 {
		in := s>>variable&1 == 1
		if in && c.Yes>>variable&1 == 1 || !in && c.No>>variable&1 == 1 {
			return true
		}
	}
	return false
}

// models returns all sets for which all clauses hold.
func models(n int, l []api.Clause) []int {
	var sets []int
	for s := range 1 << n {
		if !slices.ContainsFunc(l, func(c api.Clause) bool { return !holds(c, s) }) {
			sets = append(sets, s)
		}
	}
	return sets
}

func wantSolve(sets []int) (uint32, api.Errno) {
	if len(sets) == 0 {
		return 0, api.ErrNone
	}
	return uint32(slices.Min(sets)), api.OK
}

func wantHorn(l []api.Clause, sets []int) (uint32, api.Errno) {
	for _, c := range l {
		if c.Yes != 0 && c.Yes&(c.Yes-1) != 0 {
			return 0, api.ErrForm
		}
	}
	for _, s := range sets {
		if !slices.ContainsFunc(sets, func(other int) bool { return other&s != s }) {
			return uint32(s), api.OK
		}
	}
	return 0, api.ErrNone
}

// judge tells what is wrong with a refutation, or nothing.
func judge(l []api.Clause, pairs [][2]int) string {
	if slices.Contains(l, api.Clause{}) {
		if len(pairs) != 0 {
			return "a clause is empty, and the list is not"
		}
		return ""
	}
	known := slices.Clone(l)
	for _, pair := range pairs {
		if min(pair[0], pair[1]) < 0 || max(pair[0], pair[1]) >= len(known) {
			return "a number is not that of a preceding clause"
		}
		if pair[0] == pair[1] {
			return "a clause is resolved with itself"
		}
		yes, no := known[pair[0]], known[pair[1]]
		variable := 0
		for variable < 32 && (yes.Yes>>variable&1 == 0 || no.No>>variable&1 == 0) {
			variable++
		}
		if variable == 32 {
			return "two clauses have no resolvent"
		}
		yes.Yes -= 1 << variable
		no.No -= 1 << variable
		known = append(known, api.Clause{Yes: yes.Yes | no.Yes, No: yes.No | no.No})
	}
	if known[len(known)-1] != (api.Clause{}) {
		return "the last resolvent is not empty"
	}
	return ""
}

// compare calls all functions, and returns how many models there are.
func compare(t *testing.T, n int, l []api.Clause) int {
	t.Helper()
	sets := models(n, l)
	got := callAll(n, l)
	if s, e := wantSolve(sets); got.solution != s || got.errs[0] != e {
		t.Fatalf("%d variables, %v: Solve %d %d, want %d %d", n, l, got.solution, got.errs[0], s, e)
	}
	if s, e := wantHorn(l, sets); got.model != s || got.errs[1] != e {
		t.Fatalf("%d variables, %v: Horn %d %d, want %d %d", n, l, got.model, got.errs[1], s, e)
	}
	if len(sets) > 0 {
		if len(got.pairs) != 0 || got.errs[2] != api.ErrNone {
			t.Fatalf("%d variables, %v: Refute %v %d, want error %d", n, l, got.pairs, got.errs[2], api.ErrNone)
		}
	} else if fault := judge(l, got.pairs); fault != "" || got.errs[2] != api.OK {
		t.Fatalf("%d variables, %v: Refute %v %d: %s", n, l, got.pairs, got.errs[2], fault)
	}
	return len(sets)
}

// TestAllSetsOfClauses goes through all sets of clauses of one and of two variables: there are 4 and 16 such clauses.
func TestAllSetsOfClauses(t *testing.T) {
	for n := 1; n <= 2; n++ {
		for chosen := range 1 << (1 << (2 * n)) {
			var l []api.Clause
			for number := range 1 << (2 * n) {
				if chosen>>number&1 == 1 {
					l = append(l, api.Clause{Yes: uint32(number >> n), No: uint32(number & (1<<n - 1))})
				}
			}
			compare(t, n, l)
			slices.Reverse(l)
			compare(t, n, l)
		}
	}
}

// TestAllShortLists goes through all lists of up to three clauses of two variables, repeated ones among them,
// and all lists of up to two clauses of three variables.
func TestAllShortLists(t *testing.T) {
	for _, size := range [][2]int{{2, 3}, {3, 2}} {
		n, most := size[0], size[1]
		count := 1 << (2 * n)
		total := 1
		for length := range most + 1 {
			for word := range total {
				l := make([]api.Clause, length)
				for i := range l {
					number := uint32(word % count)
					l[i] = api.Clause{Yes: number >> n, No: number & (1<<n - 1)}
					word /= count
				}
				compare(t, n, l)
			}
			total *= count
		}
	}
}

// TestManyLists mixes the numbers of a fixed sequence into lists of clauses of all sizes, with few variables in each,
// and only Horn clauses in every third list.
func TestManyLists(t *testing.T) {
	state := uint32(1414213)
	next := func(below int) int {
		state = state*1664525 + 1013904223
		return int(state>>8) % below
	}
	satisfied, refuted := 0, 0
	for round := range 60000 {
		n := 1 + round%api.MaxSat
		l := make([]api.Clause, next(api.MaxCls+1))
		longest := 1 + next(4)
		for i := range l {
			for range 1 + next(longest) {
				bit := uint32(1) << next(n)
				if next(2) == 0 && (round%3 != 0 || l[i].Yes == 0) {
					l[i].Yes |= bit
				} else {
					l[i].No |= bit
				}
			}
		}
		if compare(t, n, l) > 0 {
			satisfied++
		} else {
			refuted++
		}
	}
	if satisfied < 10000 || refuted < 10000 {
		t.Errorf("%d lists are satisfied and %d are refuted: too few of one kind", satisfied, refuted)
	}
}
