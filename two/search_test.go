package two

import (
	"slices"
	"testing"

	"syllogist/api"
)

// The functions of this file follow the document's words alone, and share no code with the program.

// literal tells that a variable is true, or that it is not.
type literal struct {
	variable int
	is       bool
}

func (x literal) not() literal { return literal{x.variable, !x.is} }

func (x literal) number(n int) int {
	if x.is {
		return x.variable
	}
	return n + x.variable
}

// literals returns all literals of a clause.
func literals(c api.Clause) []literal {
	var list []literal
	for variable := range 32 {
		if c.Yes>>variable&1 == 1 {
			list = append(list, literal{variable, true})
		}
		if c.No>>variable&1 == 1 {
			list = append(list, literal{variable, false})
		}
	}
	return list
}

// implied returns what a literal implies by one clause.
func implied(c api.Clause, x literal) []literal {
	var list []literal
	has := literals(c)
	for i, y := range has {
		if y.not() == x {
			list = append(list, has[len(has)-1-i])
		}
	}
	return list
}

// wantReach follows all implications from one literal after the other.
func wantReach(n int, l []api.Clause) []uint32 {
	sets := make([]uint32, 2*n)
	for variable := range n {
		for _, is := range []bool{true, false} {
			found := []literal{{variable, is}}
			for i := 0; i < len(found); i++ {
				for _, c := range l {
					for _, y := range implied(c, found[i]) {
						if !slices.Contains(found, y) {
							found = append(found, y)
						}
					}
				}
			}
			for _, y := range found {
				sets[found[0].number(n)] |= 1 << y.number(n)
			}
		}
	}
	return sets
}

func wantStuck(n int, reach []uint32) uint32 {
	var set uint32
	for variable := range n {
		yes, no := variable, variable+n
		if reach[yes]&(1<<no) != 0 && reach[no]&(1<<yes) != 0 {
			set += 1 << variable
		}
	}
	return set
}

func wantSolve(n int, l []api.Clause) (uint32, api.Errno) {
	for s := range 1 << n {
		if !slices.ContainsFunc(l, func(c api.Clause) bool {
			return !slices.ContainsFunc(literals(c), func(x literal) bool { return x.is == (s>>x.variable&1 == 1) })
		}) {
			return uint32(s), api.OK
		}
	}
	return 0, api.ErrNone
}

// wantError returns the first of the common errors.
func wantError(n int, l []api.Clause) api.Errno {
	if n < 1 || n > 6 || len(l) > 16 {
		return api.ErrLarge
	}
	if slices.ContainsFunc(l, func(c api.Clause) bool {
		return slices.ContainsFunc(literals(c), func(x literal) bool { return x.variable >= n })
	}) {
		return api.ErrRange
	}
	if slices.ContainsFunc(l, func(c api.Clause) bool { return len(literals(c)) == 0 || len(literals(c)) > 2 }) {
		return api.ErrForm
	}
	return api.OK
}

// search returns what all functions should return.
func search(n int, l []api.Clause) result {
	if e := wantError(n, l); e != api.OK {
		return result{errs: [3]api.Errno{e, e, e}}
	}
	want := result{reach: wantReach(n, l)}
	want.stuck = wantStuck(n, want.reach)
	want.solution, want.errs[2] = wantSolve(n, l)
	return want
}

// compare calls all functions, holds their results against the search, and returns them.
func compare(t *testing.T, n int, l []api.Clause) result {
	t.Helper()
	got, want := callAll(n, l), search(n, l)
	if !same(got, want) {
		t.Fatalf("%d variables, %v: %+v, want %+v", n, l, got, want)
	}
	if got.errs[0] == api.OK && (got.stuck == 0) != (got.errs[2] == api.OK) {
		t.Fatalf("%d variables, %v: stuck are %d, and Solve returns %d", n, l, got.stuck, got.errs[2])
	}
	return got
}

// allClauses returns all clauses of one or two literals.
func allClauses(n int) []api.Clause {
	var list []api.Clause
	for yes := range uint32(1) << n {
		for no := range uint32(1) << n {
			c := api.Clause{Yes: yes, No: no}
			if count := len(literals(c)); count == 1 || count == 2 {
				list = append(list, c)
			}
		}
	}
	return list
}

// TestAllSetsOfClauses goes through all sets of clauses of one and of two variables: there are 3 and 10 such clauses.
func TestAllSetsOfClauses(t *testing.T) {
	for n, count := range map[int]int{1: 3, 2: 10} {
		all := allClauses(n)
		if len(all) != count {
			t.Fatalf("%d variables have %d clauses, want %d", n, len(all), count)
		}
		for chosen := range 1 << count {
			var l []api.Clause
			for i, c := range all {
				if chosen>>i&1 == 1 {
					l = append(l, c)
				}
			}
			compare(t, n, l)
			slices.Reverse(l)
			compare(t, n, l)
		}
	}
}

// TestAllShortLists goes through all lists of up to three clauses of three variables, repeated ones among them.
func TestAllShortLists(t *testing.T) {
	all := allClauses(3)
	total := 1
	for length := range 4 {
		for word := range total {
			l := make([]api.Clause, length)
			for i := range l {
				l[i] = all[word%len(all)]
				word /= len(all)
			}
			compare(t, 3, l)
		}
		total *= len(all)
	}
}

// TestAllPairsOfWords goes through all lists of two clauses of up to two variables that are any sets of three bits, valid or not.
func TestAllPairsOfWords(t *testing.T) {
	counts := map[api.Errno]int{}
	for n := range 3 {
		for word := range uint32(1 << 12) {
			l := []api.Clause{{Yes: word & 7, No: word >> 3 & 7}, {Yes: word >> 6 & 7, No: word >> 9}}
			counts[compare(t, n, l).errs[0]]++
		}
	}
	for _, e := range []api.Errno{api.OK, api.ErrLarge, api.ErrRange, api.ErrForm} {
		if counts[e] == 0 {
			t.Errorf("no list has error %d", e)
		}
	}
}

// TestManyLists mixes the numbers of a fixed sequence into lists of clauses of all sizes.
func TestManyLists(t *testing.T) {
	state := uint32(1732050)
	next := func(below int) int {
		state = state*1664525 + 1013904223
		return int(state>>8) % below
	}
	var every [api.MaxSat + 1][]api.Clause
	for n := range every {
		every[n] = allClauses(n)
	}
	solved, stuck := 0, 0
	for round := range 20000 {
		n := 1 + round%api.MaxSat
		l := make([]api.Clause, next(api.MaxCls+1))
		for i := range l {
			l[i] = every[n][next(len(every[n]))]
		}
		if compare(t, n, l).stuck == 0 {
			solved++
		} else {
			stuck++
		}
	}
	if solved < 5000 || stuck < 5000 {
		t.Errorf("%d lists are solved and %d are stuck: too few of one kind", solved, stuck)
	}
}
