package two

import (
	"math"
	"slices"
	"testing"

	"syllogist/api"
)

// result holds what all functions return for one list of clauses.
type result struct {
	reach           []uint32
	stuck, solution uint32
	errs            [3]api.Errno
}

func callAll(n int, l []api.Clause) result {
	var got result
	got.reach, got.errs[0] = Reach(n, l)
	got.stuck, got.errs[1] = Stuck(n, l)
	got.solution, got.errs[2] = Solve(n, l)
	return got
}

func same(a, b result) bool {
	return slices.Equal(a.reach, b.reach) && a.stuck == b.stuck && a.solution == b.solution && a.errs == b.errs
}

// rows are clauses as they are written down: Yes and No.
type rows [][2]uint32

func (l rows) clauses() []api.Clause {
	var list []api.Clause
	for _, row := range l {
		list = append(list, api.Clause{Yes: row[0], No: row[1]})
	}
	return list
}

func TestErrorsOfAllFunctions(t *testing.T) {
	long := slices.Repeat(rows{{1, 0}}, api.MaxCls+1)
	cases := []struct {
		name string
		n    int
		l    rows
		want api.Errno
	}{
		{"no variables", 0, nil, api.ErrLarge},
		{"fewer than no variables", -1, nil, api.ErrLarge},
		{"least number", math.MinInt, nil, api.ErrLarge},
		{"too many variables", api.MaxSat + 1, nil, api.ErrLarge},
		{"as many variables as half a word has bits", 16, nil, api.ErrLarge},
		{"as many variables as an int has bits", 64, nil, api.ErrLarge},
		{"greatest number", math.MaxInt, nil, api.ErrLarge},
		{"too many clauses", 1, long, api.ErrLarge},
		{"far too many clauses", 6, slices.Repeat(long, 100), api.ErrLarge},
		{"too many clauses before a bit that is not a variable", 1, append(rows{{2, 0}}, long...), api.ErrLarge},
		{"too many clauses before an empty one", 1, append(rows{{0, 0}}, long...), api.ErrLarge},
		{"no variables before a bit that is not a variable", 0, rows{{1, 0}}, api.ErrLarge},
		{"too many variables before an empty clause", 7, rows{{0, 0}}, api.ErrLarge},
		{"too many variables before three literals", 7, rows{{7, 0}}, api.ErrLarge},

		{"Yes has n", 3, rows{{8, 1}}, api.ErrRange},
		{"No has n", 3, rows{{1, 8}}, api.ErrRange},
		{"Yes has the number of a negative literal", 2, rows{{4, 0}}, api.ErrRange},
		{"Yes has one more than the most", 6, rows{{1 << 6, 0}}, api.ErrRange},
		{"No has one more than the most", 6, rows{{0, 1 << 6}}, api.ErrRange},
		{"Yes has the last bit", 6, rows{{1 << 31, 0}}, api.ErrRange},
		{"No has the last bit", 6, rows{{0, 1 << 31}}, api.ErrRange},
		{"a bit that is not a variable in the last clause of the most", 1, append(slices.Repeat(rows{{1, 0}}, api.MaxCls-1), [2]uint32{2, 0}), api.ErrRange},
		{"all bits", 6, rows{{math.MaxUint32, math.MaxUint32}}, api.ErrRange},
		{"three literals, of which one is not a variable", 2, rows{{7, 0}}, api.ErrRange},
		{"an empty clause before a bit that is not a variable", 2, rows{{0, 0}, {4, 0}}, api.ErrRange},
		{"three literals before a bit that is not a variable", 2, rows{{3, 1}, {0, 4}}, api.ErrRange},
		{"two clauses that exclude each other before a bit that is not a variable", 1, rows{{1, 0}, {0, 1}, {0, 2}}, api.ErrRange},

		{"an empty clause", 1, rows{{0, 0}}, api.ErrForm},
		{"an empty clause of the most variables", 6, rows{{0, 0}}, api.ErrForm},
		{"an empty clause at the end", 2, rows{{1, 0}, {3, 0}, {0, 0}}, api.ErrForm},
		{"an empty clause at the start", 2, rows{{0, 0}, {1, 0}, {3, 0}}, api.ErrForm},
		{"three of Yes", 3, rows{{7, 0}}, api.ErrForm},
		{"three of No", 3, rows{{0, 7}}, api.ErrForm},
		{"two of Yes and one of No", 3, rows{{3, 4}}, api.ErrForm},
		{"one of Yes and two of No", 3, rows{{1, 6}}, api.ErrForm},
		{"three literals of two variables", 2, rows{{3, 1}}, api.ErrForm},
		{"four literals of two variables", 2, rows{{3, 3}}, api.ErrForm},
		{"three literals that are far apart", 6, rows{{33, 32}}, api.ErrForm},
		{"all literals", 6, rows{{63, 63}}, api.ErrForm},
		{"three literals at the end", 3, rows{{1, 0}, {3, 0}, {7, 0}}, api.ErrForm},
		{"three literals in the last clause of the most", 2, append(slices.Repeat(rows{{1, 0}}, api.MaxCls-1), [2]uint32{3, 1}), api.ErrForm},
		{"three literals before no solution", 2, rows{{1, 0}, {0, 1}, {3, 1}}, api.ErrForm},
		{"an empty clause after no solution", 1, rows{{1, 0}, {0, 1}, {0, 0}}, api.ErrForm},
	}
	for _, c := range cases {
		want := result{errs: [3]api.Errno{c.want, c.want, c.want}}
		if got := callAll(c.n, c.l.clauses()); !same(got, want) {
			t.Errorf("%s: %+v, want error %d", c.name, got, c.want)
		}
	}
}

func TestLiteralsThatAreReached(t *testing.T) {
	cases := []struct {
		name string
		n    int
		l    rows
		want []uint32
	}{
		{"no clauses", 1, nil, []uint32{1, 2}},
		{"no clauses of the most variables", 6, nil, []uint32{1, 2, 4, 8, 16, 32, 64, 128, 256, 512, 1024, 2048}},
		{"one variable", 1, rows{{1, 0}}, []uint32{1, 3}},
		{"one variable that is not", 1, rows{{0, 1}}, []uint32{3, 2}},
		{"a variable that must be and must not be", 1, rows{{1, 0}, {0, 1}}, []uint32{3, 3}},
		{"a variable and its negation", 1, rows{{1, 1}}, []uint32{1, 2}},
		{"the document's clauses", 2, rows{{3, 0}, {0, 1}}, []uint32{7, 2, 6, 15}},
		{"one of two", 2, rows{{3, 0}}, []uint32{1, 2, 6, 9}},
		{"not both", 2, rows{{0, 3}}, []uint32{9, 6, 4, 8}},
		{"the first implies the second", 2, rows{{2, 1}}, []uint32{3, 2, 4, 12}},
		{"the second implies the first", 2, rows{{1, 2}}, []uint32{1, 3, 12, 8}},
		{"both or none", 2, rows{{2, 1}, {1, 2}}, []uint32{3, 3, 12, 12}},
		{"a chain", 3, rows{{2, 1}, {4, 2}}, []uint32{7, 6, 4, 8, 24, 56}},
		{"a chain, backwards", 3, rows{{4, 2}, {2, 1}}, []uint32{7, 6, 4, 8, 24, 56}},
		{"one of the last two", 6, rows{{48, 0}}, []uint32{1, 2, 4, 8, 16, 32, 64, 128, 256, 512, 1024 | 32, 2048 | 16}},
		{"the most clauses", 2, slices.Repeat(rows{{2, 1}}, api.MaxCls), []uint32{3, 2, 4, 12}},
	}
	for _, c := range cases {
		if r, e := Reach(c.n, c.l.clauses()); !slices.Equal(r, c.want) || e != api.OK {
			t.Errorf("%s: %v %d, want %v", c.name, r, e, c.want)
		}
	}
}

// TestVariablesThatAreStuck also looks for solutions: there is one unless a variable is stuck.
func TestVariablesThatAreStuck(t *testing.T) {
	cases := []struct {
		name string
		n    int
		l    rows
		want uint32
	}{
		{"the only variable", 1, rows{{1, 0}, {0, 1}}, 1},
		{"the last variable", 6, rows{{32, 0}, {0, 32}}, 32},
		{"one variable implies nothing for the other", 2, rows{{1, 0}, {0, 1}}, 1},
		{"all clauses of two variables", 2, rows{{3, 0}, {2, 1}, {1, 2}, {0, 3}}, 3},
		{"two variables that are one, and another two", 4, rows{{2, 1}, {1, 2}, {3, 0}, {0, 3}, {8, 4}}, 3},
		{"a variable that is needed for two that are stuck", 3, rows{{6, 0}, {4, 2}, {2, 4}, {0, 6}, {2, 1}}, 6},
		{"a long way around", 6, rows{{3, 0}, {4, 2}, {8, 4}, {1, 8}, {16, 1}, {32, 16}, {0, 33}}, 63},
		{"each variable on its own", 6, rows{{1, 0}, {0, 1}, {2, 0}, {0, 2}, {4, 0}, {0, 4}, {8, 0}, {0, 8}, {16, 0}, {0, 16}, {32, 0}, {0, 32}}, 63},
	}
	for _, c := range cases {
		if s, e := Stuck(c.n, c.l.clauses()); s != c.want || e != api.OK {
			t.Errorf("%s: %d %d, want %d", c.name, s, e, c.want)
		}
		if s, e := Solve(c.n, c.l.clauses()); s != 0 || e != api.ErrNone {
			t.Errorf("%s: Solve %d %d, want error %d", c.name, s, e, api.ErrNone)
		}
	}
}

func TestSolutions(t *testing.T) {
	cases := []struct {
		name string
		n    int
		l    rows
		want uint32
	}{
		{"no clauses", 1, nil, 0},
		{"no clauses of the most variables", 6, nil, 0},
		{"the document's example", 2, rows{{3, 0}, {0, 1}}, 2},
		{"one variable", 1, rows{{1, 0}}, 1},
		{"one variable that is not", 1, rows{{0, 1}}, 0},
		{"a variable and its negation", 1, rows{{1, 1}}, 0},
		{"one of two", 2, rows{{3, 0}}, 1},
		{"exactly one of two", 2, rows{{3, 0}, {0, 3}}, 1},
		{"the smaller word rather than the smaller set", 3, rows{{5, 0}, {6, 0}}, 3},
		{"two variables that are one", 2, rows{{2, 0}, {1, 2}, {2, 1}}, 3},
		{"exactly the last", 6, rows{{32, 0}, {0, 1}, {0, 2}, {0, 4}, {0, 8}, {0, 16}}, 32},
		{"all of them", 6, rows{{1, 0}, {2, 1}, {4, 2}, {8, 4}, {16, 8}, {32, 16}}, 63},
		{"the most clauses", 6, slices.Repeat(rows{{48, 0}}, api.MaxCls), 16},
	}
	for _, c := range cases {
		if s, e := Solve(c.n, c.l.clauses()); s != c.want || e != api.OK {
			t.Errorf("%s: %d %d, want %d", c.name, s, e, c.want)
		}
		if s, e := Stuck(c.n, c.l.clauses()); s != 0 || e != api.OK {
			t.Errorf("%s: Stuck %d %d, want 0", c.name, s, e)
		}
	}
}

func TestArgumentsAreKept(t *testing.T) {
	whole := rows{{3, 0}, {2, 1}, {2, 0}, {0, 0}, {1 << 31, 0}}.clauses()
	before := slices.Clone(whole)
	l := whole[:3]
	// One function after the other, since what one changes another one may change back.
	kept := func(name string) {
		if !slices.Equal(whole, before) {
			t.Errorf("after %s, the clauses are %v", name, whole)
		}
		copy(whole, before)
	}
	reach, e := Reach(2, l)
	kept("Reach")
	want := []uint32{3, 2, 6, 15}
	if !slices.Equal(reach, want) || e != api.OK {
		t.Errorf("Reach %v %d, want %v", reach, e, want)
	}
	if s, e := Stuck(2, l); s != 0 || e != api.OK {
		t.Errorf("Stuck %d %d, want 0", s, e)
	}
	kept("Stuck")
	if s, e := Solve(2, l); s != 2 || e != api.OK {
		t.Errorf("Solve %d %d, want 2", s, e)
	}
	kept("Solve")
	clear(whole)
	if !slices.Equal(reach, want) {
		t.Errorf("the result has become %v", reach)
	}
	copy(whole, before)
	clear(reach)
	if again, _ := Reach(2, l); !slices.Equal(again, want) {
		t.Errorf("a second call returns %v, want %v", again, want)
	}
	if !same(callAll(2, nil), callAll(2, []api.Clause{})) {
		t.Error("nil and empty lists differ")
	}
}
