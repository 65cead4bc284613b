package clause

import (
	"math"
	"slices"
	"testing"

	"syllogist/api"
)

// result holds what all functions return for one list of clauses.
type result struct {
	solution, model uint32
	pairs           [][2]int
	errs            [3]api.Errno
}

func callAll(n int, l []api.Clause) result {
	var got result
	got.solution, got.errs[0] = Solve(n, l)
	got.model, got.errs[1] = Horn(n, l)
	got.pairs, got.errs[2] = Refute(n, l)
	return got
}

func same(a, b result) bool {
	return a.solution == b.solution && a.model == b.model && a.errs == b.errs && slices.Equal(a.pairs, b.pairs)
}

// rows are clauses as they are written down: Yes and No.
type rows [][2]uint32

func (l rows) clauses() []api.Clause {
	var list []api.Clause
	for _, row := range l {
		list = append(list, api.Clause{Yes: row[0], No: row[1]})
	}
	return list
}

func TestErrorsOfAllFunctions(t *testing.T) {
	long := slices.Repeat(rows{{1, 0}}, api.MaxCls+1)
	cases := []struct {
		name string
		n    int
		l    rows
		want api.Errno
	}{
		{"no variables", 0, nil, api.ErrLarge},
		{"fewer than no variables", -1, nil, api.ErrLarge},
		{"least number", math.MinInt, nil, api.ErrLarge},
		{"too many variables", api.MaxSat + 1, nil, api.ErrLarge},
		{"as many variables as a word has bits", 32, nil, api.ErrLarge},
		{"as many variables as an int has bits", 64, nil, api.ErrLarge},
		{"greatest number", math.MaxInt, nil, api.ErrLarge},
		{"too many clauses", 1, long, api.ErrLarge},
		{"far too many clauses", 6, slices.Repeat(long, 100), api.ErrLarge},
		{"too many clauses before a wrong one", 1, append(rows{{2, 0}}, long...), api.ErrLarge},
		{"too many clauses, of which one is empty", 1, append(rows{{0, 0}}, long...), api.ErrLarge},
		{"no variables before a wrong clause", 0, rows{{1, 0}}, api.ErrLarge},
		{"too many variables before a wrong clause", 7, rows{{1 << 31, 0}}, api.ErrLarge},
		{"Yes has n", 3, rows{{8, 1}}, api.ErrRange},
		{"No has n", 3, rows{{1, 8}}, api.ErrRange},
		{"Yes has the last bit", 6, rows{{1 << 31, 0}}, api.ErrRange},
		{"No has the last bit", 6, rows{{0, 1 << 31}}, api.ErrRange},
		{"Yes has one more than the most", 6, rows{{1 << 6, 0}}, api.ErrRange},
		{"No has one more than the most", 6, rows{{0, 1 << 6}}, api.ErrRange},
		{"all bits", 6, rows{{math.MaxUint32, math.MaxUint32}}, api.ErrRange},
		{"the last clause of the most", 1, append(slices.Repeat(rows{{1, 0}}, api.MaxCls-1), [2]uint32{2, 0}), api.ErrRange},
		{"a wrong clause after one with two of Yes", 2, rows{{3, 0}, {0, 4}}, api.ErrRange},
		{"a wrong clause with two of Yes", 2, rows{{7, 0}}, api.ErrRange},
		{"a wrong clause after an empty one", 2, rows{{0, 0}, {4, 0}}, api.ErrRange},
		{"a wrong clause after two that exclude each other", 1, rows{{1, 0}, {0, 1}, {0, 2}}, api.ErrRange},
	}
	for _, c := range cases {
		want := result{errs: [3]api.Errno{c.want, c.want, c.want}}
		if got := callAll(c.n, c.l.clauses()); !same(got, want) {
			t.Errorf("%s: %+v, want error %d", c.name, got, c.want)
		}
	}
}

func TestErrorsOfHorn(t *testing.T) {
	cases := []struct {
		name string
		n    int
		l    rows
		want api.Errno
	}{
		{"two of Yes", 2, rows{{3, 0}}, api.ErrForm},
		{"two of Yes in a clause that always holds", 2, rows{{3, 3}}, api.ErrForm},
		{"all of Yes", 6, rows{{63, 0}}, api.ErrForm},
		{"two of Yes that are far apart", 6, rows{{33, 0}}, api.ErrForm},
		{"two of Yes in the last clause", 3, rows{{1, 0}, {2, 1}, {6, 0}}, api.ErrForm},
		{"two of Yes before no model", 2, rows{{1, 0}, {0, 1}, {3, 0}}, api.ErrForm},
		{"two of Yes after an empty clause", 2, rows{{0, 0}, {3, 0}}, api.ErrForm},
		{"an empty clause", 1, rows{{0, 0}}, api.ErrNone},
		{"a clause and its negation", 1, rows{{1, 0}, {0, 1}}, api.ErrNone},
		{"an implication that must not be", 3, rows{{1, 0}, {2, 1}, {4, 2}, {0, 5}}, api.ErrNone},
	}
	for _, c := range cases {
		if s, e := Horn(c.n, c.l.clauses()); s != 0 || e != c.want {
			t.Errorf("%s: %d %d, want error %d", c.name, s, e, c.want)
		}
	}
}

func TestSolutions(t *testing.T) {
	cases := []struct {
		name string
		n    int
		l    rows
		want uint32
	}{
		{"no clauses", 1, nil, 0},
		{"no clauses of the most variables", 6, nil, 0},
		{"one variable", 1, rows{{1, 0}}, 1},
		{"one variable that is not", 1, rows{{0, 1}}, 0},
		{"one of two", 2, rows{{3, 0}}, 1},
		{"one of two, but not the first", 2, rows{{3, 0}, {0, 1}}, 2},
		{"the smaller word rather than the smaller set", 3, rows{{5, 0}, {6, 0}}, 3},
		{"exactly the last", 6, rows{{32, 0}, {0, 1}, {0, 2}, {0, 4}, {0, 8}, {0, 16}}, 32},
		{"all of them", 6, rows{{1, 0}, {2, 0}, {4, 0}, {8, 0}, {16, 0}, {32, 0}}, 63},
		{"a clause that always holds", 2, rows{{1, 1}}, 0},
		{"the most clauses", 6, slices.Repeat(rows{{32, 0}}, api.MaxCls), 32},
	}
	for _, c := range cases {
		if s, e := Solve(c.n, c.l.clauses()); s != c.want || e != api.OK {
			t.Errorf("%s: %d %d, want %d", c.name, s, e, c.want)
		}
		if pairs, e := Refute(c.n, c.l.clauses()); len(pairs) != 0 || e != api.ErrNone {
			t.Errorf("%s: Refute %v %d, want error %d", c.name, pairs, e, api.ErrNone)
		}
	}
}

func TestModels(t *testing.T) {
	cases := []struct {
		name string
		n    int
		l    rows
		want uint32
	}{
		{"no clauses", 6, nil, 0},
		{"one variable", 1, rows{{1, 0}}, 1},
		{"an implication without its cause", 2, rows{{2, 1}}, 0},
		{"an implication and its cause", 2, rows{{1, 0}, {2, 1}}, 3},
		{"a chain, backwards", 6, rows{{1, 2}, {2, 4}, {4, 8}, {8, 16}, {16, 32}, {32, 0}}, 63},
		{"two causes, of which one is missing", 3, rows{{1, 0}, {4, 3}}, 1},
		{"two causes", 3, rows{{1, 0}, {2, 0}, {4, 3}}, 7},
		{"a clause that only excludes", 3, rows{{1, 0}, {0, 6}}, 1},
		{"a clause that always holds", 2, rows{{1, 1}, {2, 3}}, 0},
		{"the most clauses", 6, slices.Repeat(rows{{32, 0}, {16, 32}}, api.MaxCls/2), 48},
	}
	for _, c := range cases {
		if s, e := Horn(c.n, c.l.clauses()); s != c.want || e != api.OK {
			t.Errorf("%s: %d %d, want %d", c.name, s, e, c.want)
		}
	}
}

func TestRefutations(t *testing.T) {
	cases := []struct {
		name string
		n    int
		l    rows
		want [][2]int
	}{
		{"the document's example", 1, rows{{1, 0}, {0, 1}}, [][2]int{{0, 1}}},
		{"the example backwards", 1, rows{{0, 1}, {1, 0}}, [][2]int{{1, 0}}},
		{"the example of the last variable", 6, rows{{32, 0}, {0, 32}}, [][2]int{{0, 1}}},
		{"the example beside clauses that always hold", 1, rows{{1, 1}, {1, 0}, {1, 1}, {0, 1}}, [][2]int{{1, 3}}},
		{"an empty clause", 1, rows{{0, 0}}, nil},
		{"an empty clause at the end", 2, rows{{1, 0}, {0, 1}, {0, 0}}, nil},
		{"only empty clauses", 6, slices.Repeat(rows{{0, 0}}, api.MaxCls), nil},
	}
	for _, c := range cases {
		pairs, e := Refute(c.n, c.l.clauses())
		if !slices.Equal(pairs, c.want) || e != api.OK {
			t.Errorf("%s: %v %d, want %v", c.name, pairs, e, c.want)
		}
		if s, e := Solve(c.n, c.l.clauses()); s != 0 || e != api.ErrNone {
			t.Errorf("%s: Solve %d %d, want error %d", c.name, s, e, api.ErrNone)
		}
	}
}

// TestHardLists has clauses that cannot be satisfied, and of which none can be omitted, or that are repeated.
func TestHardLists(t *testing.T) {
	var all rows
	for s := range uint32(16) {
		all = append(all, [2]uint32{s, 15 - s})
	}
	cases := []struct {
		name string
		n    int
		l    rows
	}{
		{"all clauses of four variables", 4, all},
		{"all clauses of the last two variables", 6, rows{{48, 0}, {32, 16}, {16, 32}, {0, 48}}},
		{"three pigeons in two holes", 6, rows{{3, 0}, {12, 0}, {48, 0}, {0, 5}, {0, 17}, {0, 20}, {0, 10}, {0, 34}, {0, 40}}},
		{"a chain", 6, rows{{1, 0}, {2, 1}, {4, 2}, {8, 4}, {16, 8}, {32, 16}, {0, 32}}},
		{"repeated clauses", 2, rows{{3, 0}, {3, 0}, {2, 1}, {2, 1}, {0, 2}, {0, 2}}},
		{"all clauses of two variables, even those that always hold", 2, rows{{3, 3}, {3, 1}, {1, 1}, {3, 0}, {2, 1}, {1, 2}, {0, 3}}},
	}
	for _, c := range cases {
		l := c.l.clauses()
		pairs, e := Refute(c.n, l)
		if fault := judge(l, pairs); fault != "" || e != api.OK {
			t.Errorf("%s: %v %d: %s", c.name, pairs, e, fault)
		}
		if again, _ := Refute(c.n, l); !slices.Equal(again, pairs) {
			t.Errorf("%s: %v, and then %v", c.name, pairs, again)
		}
	}
}

func TestArgumentsAreKept(t *testing.T) {
	whole := rows{{3, 0}, {2, 1}, {0, 2}, {0, 0}, {1 << 31, 0}}.clauses()
	before := slices.Clone(whole)
	l := whole[:3]
	got := callAll(2, l)
	if got.errs != [3]api.Errno{api.ErrNone, api.ErrForm, api.OK} || judge(l, got.pairs) != "" || len(got.pairs) == 0 {
		t.Errorf("%+v", got)
	}
	want := slices.Clone(got.pairs)
	if !slices.Equal(whole, before) {
		t.Errorf("the clauses have become %v", whole)
	}
	clear(whole)
	if !slices.Equal(got.pairs, want) {
		t.Errorf("the result has become %v", got.pairs)
	}
	copy(whole, before)
	clear(got.pairs)
	if again := callAll(2, l); !slices.Equal(again.pairs, want) {
		t.Errorf("a second call returns %v, want %v", again.pairs, want)
	}
	if !same(callAll(2, nil), callAll(2, []api.Clause{})) {
		t.Error("nil and empty lists differ")
	}
}
