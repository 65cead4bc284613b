package lattice

import (
	"math"
	"slices"
	"testing"

	"syllogist/api"
)

// result holds what all functions return for one relation and two things.
type result struct {
	join, meet          int
	is, shared, modular bool
	irreducible         uint32
	errs                [6]api.Errno
}

func callAll(n int, pairs [][2]int, a, b int) result {
	var r result
	r.join, r.errs[0] = Join(n, pairs, a, b)
	r.meet, r.errs[1] = Meet(n, pairs, a, b)
	r.is, r.errs[2] = Is(n, pairs)
	r.shared, r.errs[3] = Shared(n, pairs)
	r.modular, r.errs[4] = Modular(n, pairs)
	r.irreducible, r.errs[5] = Irreducible(n, pairs)
	return r
}

// failed is the result of six calls that all return one error.
func failed(e api.Errno) result {
	return result{errs: [6]api.Errno{e, e, e, e, e, e}}
}

// Orders that the tests share.
func diamond() [][2]int { return [][2]int{{0, 1}, {0, 2}, {1, 3}, {2, 3}} }

func triple() [][2]int {
	return [][2]int{{0, 1}, {0, 2}, {0, 3}, {1, 4}, {2, 4}, {3, 4}}
}

func pentagon() [][2]int {
	return [][2]int{{0, 1}, {1, 2}, {2, 4}, {0, 3}, {3, 4}}
}

// crown has two least upper bounds for 1 and 2, and so no join of them.
func crown() [][2]int {
	return [][2]int{{0, 1}, {0, 2}, {1, 3}, {1, 4}, {2, 3}, {2, 4}, {3, 5}, {4, 5}}
}

func chain(n int) [][2]int {
	var pairs [][2]int
	for a := 1; a < n; a++ {
		pairs = append(pairs, [2]int{a - 1, a})
	}
	return pairs
}

func repeat(pair [2]int, times int) [][2]int {
	return slices.Repeat([][2]int{pair}, times)
}

func TestErrorsOfTable(t *testing.T) {
	long := repeat([2]int{0, 0}, api.MaxPairs+1)
	cycle := [][2]int{{0, 1}, {1, 0}}
	cases := []struct {
		name  string
		n     int
		pairs [][2]int
		want  api.Errno
	}{
		{"no things", 0, nil, api.ErrLarge},
		{"fewer than no things", -1, nil, api.ErrLarge},
		{"least number", math.MinInt, nil, api.ErrLarge},
		{"too many things", api.MaxPart + 1, nil, api.ErrLarge},
		{"greatest number", math.MaxInt, nil, api.ErrLarge},
		{"too many pairs", 1, long, api.ErrLarge},
		{"too many pairs before a wrong thing", 2, append(slices.Clone(long), [2]int{0, 2}), api.ErrLarge},
		{"no things before a wrong thing", 0, [][2]int{{0, 0}}, api.ErrLarge},
		{"first is n", 3, [][2]int{{3, 0}}, api.ErrArg},
		{"second is negative", 3, [][2]int{{0, -1}}, api.ErrArg},
		{"wrong thing after a cycle", 3, append(slices.Clone(cycle), [2]int{0, 3}), api.ErrArg},
		{"cycle", 2, cycle, api.ErrForm},
		{"long cycle", 6, [][2]int{{5, 4}, {4, 3}, {3, 2}, {2, 1}, {1, 0}, {0, 5}}, api.ErrForm},
	}
	for _, c := range cases {
		// Wrong things a and b are checked after all errors of the order.
		for _, a := range []int{0, c.n, -1, math.MaxInt, math.MinInt} {
			for _, b := range []int{0, c.n, -1} {
				if got := callAll(c.n, c.pairs, a, b); got != failed(c.want) {
					t.Errorf("%s, %d and %d: %+v, want error %d and zero values", c.name, a, b, got, c.want)
				}
			}
		}
	}
}

func TestWrongThings(t *testing.T) {
	wrong := []int{-1, -2, 32, 64, math.MaxInt, math.MinInt, math.MaxInt32}
	for n := 1; n <= api.MaxPart; n++ {
		// Without pairs different things have neither join nor meet: ErrRange comes first.
		for _, pairs := range [][][2]int{nil, chain(n)} {
			for _, a := range append(wrong, n, n+1) {
				for _, two := range [][2]int{{a, 0}, {n - 1, a}, {a, a}, {a, -1}} {
					if c, e := Join(n, pairs, two[0], two[1]); c != 0 || e != api.ErrRange {
						t.Errorf("Join(%d, %v, %v) = %d, %d", n, pairs, two, c, e)
					}
					if c, e := Meet(n, pairs, two[0], two[1]); c != 0 || e != api.ErrRange {
						t.Errorf("Meet(%d, %v, %v) = %d, %d", n, pairs, two, c, e)
					}
				}
			}
		}
	}
}

func TestJoinAndMeet(t *testing.T) {
	none := api.ErrNone
	cases := []struct {
		name       string
		n          int
		pairs      [][2]int
		a, b       int
		join, meet int
		errs       [2]api.Errno
	}{
		{"one thing", 1, nil, 0, 0, 0, 0, [2]api.Errno{}},
		{"equal things without pairs", 6, nil, 5, 5, 5, 5, [2]api.Errno{}},
		{"different things without pairs", 6, nil, 4, 5, 0, 0, [2]api.Errno{none, none}},
		{"chain", 6, chain(6), 1, 4, 4, 1, [2]api.Errno{}},
		{"chain the other way", 6, chain(6), 4, 1, 4, 1, [2]api.Errno{}},
		{"diamond", 4, diamond(), 1, 2, 3, 0, [2]api.Errno{}},
		{"diamond, bottom and top", 4, diamond(), 3, 0, 3, 0, [2]api.Errno{}},
		{"triple", 5, triple(), 1, 2, 4, 0, [2]api.Errno{}},
		{"triple, comparable", 5, triple(), 1, 4, 4, 1, [2]api.Errno{}},
		{"no meet", 3, [][2]int{{0, 2}, {1, 2}}, 0, 1, 2, 0, [2]api.Errno{0, none}},
		{"no join", 3, [][2]int{{0, 1}, {0, 2}}, 1, 2, 0, 0, [2]api.Errno{none, 0}},
		{"two least upper bounds", 6, crown(), 1, 2, 0, 0, [2]api.Errno{none, 0}},
		{"two greatest lower bounds", 6, crown(), 3, 4, 5, 0, [2]api.Errno{0, none}},
		{"more above the join", 5, [][2]int{{0, 2}, {1, 2}, {2, 3}, {2, 4}}, 0, 1, 2, 0, [2]api.Errno{0, none}},
		{"the join is not the smallest number", 4, [][2]int{{1, 3}, {2, 3}, {3, 0}}, 1, 2, 3, 0, [2]api.Errno{0, none}},
	}
	for _, c := range cases {
		join, e := Join(c.n, c.pairs, c.a, c.b)
		if join != c.join || e != c.errs[0] {
			t.Errorf("%s: join %d, %d, want %d, %d", c.name, join, e, c.join, c.errs[0])
		}
		meet, e := Meet(c.n, c.pairs, c.a, c.b)
		if meet != c.meet || e != c.errs[1] {
			t.Errorf("%s: meet %d, %d, want %d, %d", c.name, meet, e, c.meet, c.errs[1])
		}
	}
}

func TestIs(t *testing.T) {
	cases := []struct {
		name  string
		n     int
		pairs [][2]int
		want  bool
	}{
		{"one thing", 1, nil, true},
		{"one thing with a pair", 1, [][2]int{{0, 0}}, true},
		{"two things without pairs", 2, nil, false},
		{"chain", 6, chain(6), true},
		{"most pairs", 6, append(chain(6), repeat([2]int{0, 5}, api.MaxPairs-5)...), true},
		{"diamond", 4, diamond(), true},
		{"triple", 5, triple(), true},
		{"pentagon", 5, pentagon(), true},
		{"joins without meets", 3, [][2]int{{0, 2}, {1, 2}}, false},
		{"meets without joins", 3, [][2]int{{0, 1}, {0, 2}}, false},
		{"top and bottom, but no joins", 6, crown(), false},
	}
	for _, c := range cases {
		if got, e := Is(c.n, c.pairs); e != api.OK || got != c.want {
			t.Errorf("%s: %v, %d", c.name, got, e)
		}
	}
}

func TestNoLattice(t *testing.T) {
	orders := []struct {
		n     int
		pairs [][2]int
	}{
		{2, nil},
		{6, nil},
		{3, [][2]int{{0, 2}, {1, 2}}},
		{3, [][2]int{{0, 1}, {0, 2}}},
		{6, crown()},
	}
	for _, o := range orders {
		got := callAll(o.n, o.pairs, 0, 0)
		want := result{errs: [6]api.Errno{0, 0, 0, api.ErrForm, api.ErrForm, api.ErrForm}}
		if got != want {
			t.Errorf("%d %v: %+v", o.n, o.pairs, got)
		}
	}
}

func TestKinds(t *testing.T) {
	long := [][2]int{{0, 1}, {1, 2}, {2, 5}, {0, 3}, {3, 4}, {4, 5}}
	cases := []struct {
		name            string
		n               int
		pairs           [][2]int
		shared, modular bool
		irreducible     uint32
	}{
		{"one thing", 1, nil, true, true, 0},
		{"two things", 2, chain(2), true, true, 2},
		{"two things, 1 below 0", 2, [][2]int{{1, 0}}, true, true, 1},
		{"chain", 6, chain(6), true, true, 62},
		{"diamond", 4, diamond(), true, true, 6},
		{"triple", 5, triple(), false, true, 14},
		{"pentagon", 5, pentagon(), false, false, 14},
		{"hexagon", 6, long, false, false, 30},
		{"two by three", 6, [][2]int{{0, 1}, {1, 2}, {0, 3}, {1, 4}, {2, 5}, {3, 4}, {4, 5}}, true, true, 14},
		{"four between", 6, [][2]int{{0, 1}, {0, 2}, {0, 3}, {0, 4}, {1, 5}, {2, 5}, {3, 5}, {4, 5}}, false, true, 30},
		{"triple below a top", 6, append(triple(), [2]int{4, 5}), false, true, 46},
		{"pentagon upside down", 5, [][2]int{{4, 2}, {2, 1}, {1, 0}, {4, 3}, {3, 0}}, false, false, 14},
	}
	for _, c := range cases {
		if got, e := Shared(c.n, c.pairs); e != api.OK || got != c.shared {
			t.Errorf("%s: Shared %v, %d", c.name, got, e)
		}
		if got, e := Modular(c.n, c.pairs); e != api.OK || got != c.modular {
			t.Errorf("%s: Modular %v, %d", c.name, got, e)
		}
		if got, e := Irreducible(c.n, c.pairs); e != api.OK || got != c.irreducible {
			t.Errorf("%s: Irreducible %d, %d, want %d", c.name, got, e, c.irreducible)
		}
	}
}

func TestArgumentsAreKept(t *testing.T) {
	// What lies beyond the length would make a cycle and a wrong thing.
	backing := append(triple(), [2]int{4, 0}, [2]int{9, 9})
	before := slices.Clone(backing)
	want := result{4, 0, true, false, true, 14, [6]api.Errno{}}
	for range 2 {
		if got := callAll(5, backing[:6], 1, 2); got != want {
			t.Errorf("%+v, want %+v", got, want)
		}
	}
	if !slices.Equal(backing, before) {
		t.Errorf("changed to %v", backing)
	}
	for n := 1; n <= api.MaxPart; n++ {
		if a, b := callAll(n, nil, 0, n-1), callAll(n, [][2]int{}, 0, n-1); a != b {
			t.Errorf("%d: %+v for nil, %+v for an empty list", n, a, b)
		}
	}
}
