package between

import (
	"slices"
	"testing"

	"syllogist/api"
)

// The functions of this file follow the document's words alone, and share no code with the program.

// members lists the variables of a set.
func members(n, set int) []int {
	var list []int
	for variable := range n {
		if set>>variable&1 == 1 {
			list = append(list, variable)
		}
	}
	return list
}

// without returns a list without the variables that are not to be looked at.
func without(list []int, unseen func(int) bool) []int {
	return slices.DeleteFunc(slices.Clone(list), unseen)
}

// agreement tells, for each set of variables to be kept and each two sets, whether these agree on it.
func agreement(n int) [][][]bool {
	all := make([][][]bool, 1<<n)
	for keep := range all {
		unseen := func(variable int) bool { return !slices.Contains(members(n, keep), variable) }
		all[keep] = make([][]bool, 1<<n)
		for a := range all[keep] {
			for b := range 1 << n {
				equal := slices.Equal(without(members(n, a), unseen), without(members(n, b), unseen))
				all[keep][a] = append(all[keep][a], equal)
			}
		}
	}
	return all
}

func wantFollows(f, g []bool) bool {
	for s := range f {
		if f[s] && !g[s] {
			return false
		}
	}
	return true
}

func wantLeast(f []bool, agree [][]bool) []bool {
	least := make([]bool, len(f))
	for s := range least {
		some := false
		for other, value := range f {
			some = some || value && agree[s][other]
		}
		least[s] = some
	}
	return least
}

func wantMost(g []bool, agree [][]bool) []bool {
	most := make([]bool, len(g))
	for s := range most {
		all := true
		for other, value := range g {
			all = all && (value || !agree[s][other])
		}
		most[s] = all
	}
	return most
}

// wantTold looks at all pairs of sets, with what agrees on all variables but v.
func wantTold(f []bool, v int, agree [][]bool) bool {
	for a := range f {
		for b := range f {
			if f[a] && f[b] && a>>v&1 != b>>v&1 && agree[a][b] {
				return false
			}
		}
	}
	return true
}

// spreadWord is the table of which the bits of a word are the values.
func spreadWord(n int, word int) []bool {
	f := make([]bool, 1<<n)
	for s := range f {
		f[s] = word>>s&1 == 1
	}
	return f
}

// dependsOnly tells whether a table has the same value for all sets that agree.
func dependsOnly(f []bool, agree [][]bool) bool {
	for a := range f {
		for b := range f {
			if agree[a][b] && f[a] != f[b] {
				return false
			}
		}
	}
	return true
}

// compareOne holds what the functions of one table return against the search.
func compareOne(t *testing.T, n int, f []bool, agree [][][]bool) {
	t.Helper()
	for keep := range agree {
		if got, e := Least(n, f, uint32(keep)); e != api.OK || !slices.Equal(got, wantLeast(f, agree[keep])) {
			t.Fatalf("%d variables, Least of %v for %d: %v %d", n, f, keep, got, e)
		}
		if got, e := Most(n, f, uint32(keep)); e != api.OK || !slices.Equal(got, wantMost(f, agree[keep])) {
			t.Fatalf("%d variables, Most of %v for %d: %v %d", n, f, keep, got, e)
		}
	}
	for v := range n {
		others := len(agree) - 1 - 1<<v
		if got, e := Told(n, f, v); e != api.OK || got != wantTold(f, v, agree[others]) {
			t.Fatalf("%d variables, %v tells %d: %v %d", n, f, v, got, e)
		}
	}
}

// compareTwo holds what the functions of two tables return against the search, and tells whether there is an interpolant.
func compareTwo(t *testing.T, n int, f, g []bool, keep int, agree [][]bool) bool {
	t.Helper()
	if got, e := Follows(n, f, g); e != api.OK || got != wantFollows(f, g) {
		t.Fatalf("%d variables, %v follows from %v: %v %d", n, g, f, got, e)
	}
	want, err := wantLeast(f, agree), api.OK
	if !wantFollows(want, g) {
		want, err = nil, api.ErrNone
	}
	got, e := Between(n, f, g, uint32(keep))
	if e != err || !slices.Equal(got, want) {
		t.Fatalf("%d variables, between %v and %v for %d: %v %d, want %v %d", n, f, g, keep, got, e, want, err)
	}
	return e == api.OK
}

// TestAllTables goes through all tables of all numbers of variables.
func TestAllTables(t *testing.T) {
	for n := 0; n <= api.MaxVar; n++ {
		agree := agreement(n)
		for word := range 1 << (1 << n) {
			compareOne(t, n, spreadWord(n, word), agree)
		}
	}
}

// TestAllPairsOfTables goes through all pairs of tables of up to three variables.
func TestAllPairsOfTables(t *testing.T) {
	for n := range 4 {
		agree := agreement(n)
		for word := range 1 << (2 << n) {
			f, g := spreadWord(n, word), spreadWord(n, word>>(1<<n))
			for keep := range agree {
				compareTwo(t, n, f, g, keep, agree[keep])
			}
		}
	}
}

// TestExtremes holds Least, Most and Between against all tables that depend only on the variables that are kept.
func TestExtremes(t *testing.T) {
	for n := range 4 {
		for keep, agree := range agreement(n) {
			var tables [][]bool
			for word := range 1 << (1 << n) {
				if h := spreadWord(n, word); dependsOnly(h, agree) {
					tables = append(tables, h)
				}
			}
			if len(tables) != 1<<(1<<len(members(n, keep))) {
				t.Fatalf("%d variables: %d tables depend only on %d", n, len(tables), keep)
			}
			for word := range 1 << (1 << n) {
				f := spreadWord(n, word)
				least, _ := Least(n, f, uint32(keep))
				most, _ := Most(n, f, uint32(keep))
				if !dependsOnly(least, agree) || !dependsOnly(most, agree) || !wantFollows(f, least) || !wantFollows(most, f) {
					t.Fatalf("%d variables, %v for %d: %v and %v are no candidates", n, f, keep, least, most)
				}
				for _, h := range tables {
					if wantFollows(f, h) && !wantFollows(least, h) || wantFollows(h, f) && !wantFollows(h, most) {
						t.Fatalf("%d variables, %v for %d: %v and %v are not extreme beside %v", n, f, keep, least, most, h)
					}
				}
			}
		}
	}
}

// TestSomeInterpolantIsFound looks for any table between two others that depends only on what is shared:
// Between has an error exactly where there is none.
func TestSomeInterpolantIsFound(t *testing.T) {
	for n := range 3 {
		for keep, agree := range agreement(n) {
			for word := range 1 << (2 << n) {
				f, g := spreadWord(n, word), spreadWord(n, word>>(1<<n))
				some := false
				for middle := range 1 << (1 << n) {
					h := spreadWord(n, middle)
					some = some || dependsOnly(h, agree) && wantFollows(f, h) && wantFollows(h, g)
				}
				if _, e := Between(n, f, g, uint32(keep)); (e == api.OK) != some {
					t.Fatalf("%d variables, between %v and %v for %d: %d, though some is %v", n, f, g, keep, e, some)
				}
			}
		}
	}
}

// TestManyPairs mixes the numbers of a fixed sequence into pairs of tables of four variables,
// of which many follow from the other one.
func TestManyPairs(t *testing.T) {
	state := uint32(2236067)
	next := func(below int) int {
		state = state*1664525 + 1013904223
		return int(state>>8) % below
	}
	agree := agreement(4)
	found, missing := 0, 0
	for range 50000 {
		keep := next(16)
		f := next(1<<16) & next(1<<16)
		g := next(1<<16) | next(1<<16)
		if next(2) == 0 {
			g |= f
		}
		// What is true for some set that agrees is mixed in, so that an interpolant is often found.
		if next(2) == 0 {
			for s, value := range wantLeast(spreadWord(4, f), agree[keep]) {
				if value {
					g |= 1 << s
				}
			}
		}
		if compareTwo(t, 4, spreadWord(4, f), spreadWord(4, g), keep, agree[keep]) {
			found++
		} else {
			missing++
		}
	}
	if found < 10000 || missing < 10000 {
		t.Errorf("%d interpolants are found and %d are missing: too few of one kind", found, missing)
	}
}

// TestDefinedVariables holds Told against the consequences of f for a variable that is true, and for one that is not:
// the other variables define it exactly where no set has both.
func TestDefinedVariables(t *testing.T) {
	for n := 1; n <= 3; n++ {
		for v := range n {
			others := uint32(1)<<n - 1 - 1<<v
			for word := range 1 << (1 << n) {
				yes, no := spreadWord(n, word), spreadWord(n, word)
				for s := range yes {
					yes[s] = yes[s] && s>>v&1 == 1
					no[s] = no[s] && s>>v&1 == 0
				}
				a, _ := Least(n, yes, others)
				b, _ := Least(n, no, others)
				both := false
				for s := range a {
					both = both || a[s] && b[s]
				}
				if got, e := Told(n, spreadWord(n, word), v); e != api.OK || got == both {
					t.Fatalf("%d variables, table %d tells %d: %v %d", n, word, v, got, e)
				}
			}
		}
	}
}
