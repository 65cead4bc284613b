package rights

import (
	"math"
	"slices"
	"testing"

	"syllogist/api"
)

const all = uint32(math.MaxUint32)

// chains are rules as they are written down: A, B and C.
type chains [][3]uint32

func (l chains) list() []api.Chain {
	var list []api.Chain
	for _, c := range l {
		list = append(list, api.Chain{A: c[0], B: c[1], C: c[2]})
	}
	return list
}

func same(a, b api.Matrix) bool {
	return slices.EqualFunc(a, b, slices.Equal[[]uint32])
}

func copyOf(m api.Matrix) api.Matrix {
	other := make(api.Matrix, len(m))
	for i, row := range m {
		other[i] = slices.Clone(row)
	}
	return other
}

// empty returns a matrix of n rows of as many elements, without rights.
func empty(n, elements int) api.Matrix {
	m := make(api.Matrix, n)
	for i := range m {
		m[i] = make([]uint32, elements)
	}
	return m
}

// with returns an empty matrix of n subjects, but for rights of some over others: from, to, rights.
func with(n int, rights ...[3]uint32) api.Matrix {
	m := empty(n, n)
	for _, r := range rights {
		m[r[0]][r[1]] |= r[2]
	}
	return m
}

// wantSteps calls Steps and Safe, which must agree; a negative number stands for ErrNone.
func wantSteps(t *testing.T, name string, m api.Matrix, l []api.Chain, x, y int, right uint32, want int) {
	t.Helper()
	code := api.OK
	if want < 0 {
		code = api.ErrNone
	}
	if got, e := Steps(len(m), m, l, x, y, right); got != max(want, 0) || e != code {
		t.Errorf("%s: steps of %d over %d for %d: %d %d, want %d", name, x, y, right, got, e, want)
	}
	if got, e := Safe(len(m), m, l, x, y, right); got != (want < 0) || e != api.OK {
		t.Errorf("%s: safe of %d over %d for %d: %v %d, want %v", name, x, y, right, got, e, want < 0)
	}
}

func TestCommonErrors(t *testing.T) {
	many := slices.Repeat(chains{{1, 1, 1}}, api.MaxRules+1)
	uneven := func(row, elements int) api.Matrix {
		m := empty(3, 3)
		m[row] = make([]uint32, elements)
		return m
	}
	cases := []struct {
		name string
		n    int
		m    api.Matrix
		l    chains
		want api.Errno
	}{
		{"no subjects", 0, nil, nil, api.ErrLarge},
		{"no subjects and one row", 0, empty(1, 0), nil, api.ErrLarge},
		{"fewer than none", -1, nil, nil, api.ErrLarge},
		{"the least number of subjects", math.MinInt, nil, nil, api.ErrLarge},
		{"too many subjects", api.MaxPart + 1, empty(7, 7), nil, api.ErrLarge},
		{"the greatest number of subjects", math.MaxInt, empty(2, 2), nil, api.ErrLarge},
		{"too many rules", 3, empty(3, 3), many, api.ErrLarge},
		{"too many rules without rights", 3, empty(3, 3), make(chains, api.MaxRules+1), api.ErrLarge},
		{"far too many rules", 3, empty(3, 3), slices.Repeat(many, 100), api.ErrLarge},
		{"too many subjects before no rows", api.MaxPart + 1, nil, nil, api.ErrLarge},
		{"too many rules before no rows", 3, nil, many, api.ErrLarge},
		{"too many rules before a short row", 3, uneven(2, 2), many, api.ErrLarge},
		{"too many subjects and rules", 7, empty(7, 7), many, api.ErrLarge},

		{"no rows", 1, nil, nil, api.ErrForm},
		{"no rows for the most subjects", api.MaxPart, nil, many[1:], api.ErrForm},
		{"a row too few", 3, empty(2, 3), nil, api.ErrForm},
		{"a row too many", 3, empty(4, 3), nil, api.ErrForm},
		{"an empty row too many", 2, append(empty(2, 2), nil), nil, api.ErrForm},
		{"far too many rows", 3, empty(1000, 3), nil, api.ErrForm},
		{"one row of none", 1, empty(1, 0), nil, api.ErrForm},
		{"one row of two", 1, empty(1, 2), nil, api.ErrForm},
		{"rows of none", 3, empty(3, 0), nil, api.ErrForm},
		{"rows that are nil", 3, make(api.Matrix, 3), nil, api.ErrForm},
		{"all rows too short", 3, empty(3, 2), nil, api.ErrForm},
		{"all rows too long", 3, empty(3, 4), nil, api.ErrForm},
		{"a greater matrix", 3, empty(4, 4), nil, api.ErrForm},
		{"a smaller matrix", 3, empty(2, 2), nil, api.ErrForm},
		{"the most rows for the fewest subjects", 1, empty(6, 6), nil, api.ErrForm},
		{"the first row too short", 3, uneven(0, 2), nil, api.ErrForm},
		{"the first row too long", 3, uneven(0, 4), nil, api.ErrForm},
		{"the second row too short", 3, uneven(1, 2), nil, api.ErrForm},
		{"the second row too long", 3, uneven(1, 4), nil, api.ErrForm},
		{"the last row too short", 3, uneven(2, 2), nil, api.ErrForm},
		{"the last row too long", 3, uneven(2, 4), nil, api.ErrForm},
		{"the last row empty", 3, uneven(2, 0), nil, api.ErrForm},
		{"rows of nine elements in all", 3, api.Matrix{{0, 0, 0, 0}, {0, 0}, {0, 0, 0}}, nil, api.ErrForm},
	}
	for _, c := range cases {
		if got, e := Close(c.n, c.m, c.l.list()); e != c.want || len(got) != 0 {
			t.Errorf("%s: %v %d, want error %d", c.name, got, e, c.want)
		}
		for _, pair := range [][2]int{{0, 0}, {0, 1}, {2, 2}, {-1, 0}, {0, 7}, {math.MinInt, math.MaxInt}} {
			for _, right := range []uint32{0, 1, all} {
				if got, e := Safe(c.n, c.m, c.l.list(), pair[0], pair[1], right); e != c.want || got {
					t.Errorf("%s: safe of %v for %d: %v %d, want error %d", c.name, pair, right, got, e, c.want)
				}
				if got, e := Steps(c.n, c.m, c.l.list(), pair[0], pair[1], right); e != c.want || got != 0 {
					t.Errorf("%s: steps of %v for %d: %d %d, want error %d", c.name, pair, right, got, e, c.want)
				}
			}
		}
	}
}

func TestErrorsOfSubjects(t *testing.T) {
	full := api.Matrix{{all, all, all}, {all, all, all}, {all, all, all}}
	for _, number := range []int{-1, 3, 4, 6, -3, 1 << 32, -1 << 32, math.MinInt, math.MaxInt} {
		for _, pair := range [][2]int{{number, 0}, {0, number}, {number, 2}, {2, number}, {number, number}, {number, -number}} {
			for _, m := range []api.Matrix{full, empty(3, 3)} {
				for _, right := range []uint32{0, 1, all} {
					if got, e := Safe(3, m, nil, pair[0], pair[1], right); e != api.ErrArg || got {
						t.Errorf("safe of %v for %d: %v %d, want error %d", pair, right, got, e, api.ErrArg)
					}
					if got, e := Steps(3, m, nil, pair[0], pair[1], right); e != api.ErrArg || got != 0 {
						t.Errorf("steps of %v for %d: %d %d, want error %d", pair, right, got, e, api.ErrArg)
					}
				}
			}
		}
	}
	for x := range 3 {
		for y := range 3 {
			wantSteps(t, "all rights", full, nil, x, y, all, 0)
			wantSteps(t, "no rights", empty(3, 3), nil, x, y, 1<<31, -1)
		}
	}
}

func TestExampleOfTheDocument(t *testing.T) {
	m, l := with(3, [3]uint32{0, 1, 1}, [3]uint32{1, 2, 1}), chains{{1, 1, 1}}.list()
	want := api.Matrix{{0, 1, 1}, {0, 0, 1}, {0, 0, 0}}
	if got, e := Close(3, m, l); !same(got, want) || e != api.OK {
		t.Errorf("%v %d, want %v", got, e, want)
	}
	for x, row := range want {
		for y, rights := range row {
			steps := int(rights) - 1
			if x == 0 && y == 2 {
				steps = 1
			}
			wantSteps(t, "the example", m, l, x, y, 1, steps)
		}
	}
}

func TestClose(t *testing.T) {
	const high = 1 << 31
	line := with(3, [3]uint32{0, 1, 1}, [3]uint32{1, 2, 2})
	cases := []struct {
		name    string
		m, want api.Matrix
		l       chains
	}{
		{"no rules", api.Matrix{{1, 2}, {all, 0}}, api.Matrix{{1, 2}, {all, 0}}, nil},
		{"one subject without rights", empty(1, 1), empty(1, 1), chains{{1, 1, 2}}},
		{"one subject by itself", with(1, [3]uint32{0, 0, 3}), with(1, [3]uint32{0, 0, 7}), chains{{1, 2, 4}}},
		{"the first and the second one are the same", with(2, [3]uint32{0, 0, 1}, [3]uint32{0, 1, 2}), with(2, [3]uint32{0, 0, 1}, [3]uint32{0, 1, 6}), chains{{1, 2, 4}}},
		{"the second and the third one are the same", with(2, [3]uint32{0, 1, 1}, [3]uint32{1, 1, 2}), with(2, [3]uint32{0, 1, 5}, [3]uint32{1, 1, 2}), chains{{1, 2, 4}}},
		{"the first and the third one are the same", with(2, [3]uint32{0, 1, 1}, [3]uint32{1, 0, 2}), with(2, [3]uint32{0, 1, 1}, [3]uint32{1, 0, 2}, [3]uint32{0, 0, 4}), chains{{1, 2, 4}}},
		{"not in turned order", line, line, chains{{2, 1, 4}}},
		{"not from one and to the same", with(3, [3]uint32{0, 1, 1}, [3]uint32{0, 2, 2}), with(3, [3]uint32{0, 1, 1}, [3]uint32{0, 2, 2}), chains{{1, 2, 4}}},
		{"only over the third one", line, with(3, [3]uint32{0, 1, 1}, [3]uint32{1, 2, 2}, [3]uint32{0, 2, 4}), chains{{1, 2, 4}}},
		{"A that is not there in full", line, line, chains{{5, 2, 8}}},
		{"B that is not there in full", line, line, chains{{1, 6, 8}}},
		{"A and B with more rights than they need", with(3, [3]uint32{0, 1, 7}, [3]uint32{1, 2, 15}), with(3, [3]uint32{0, 1, 7}, [3]uint32{1, 2, 15}, [3]uint32{0, 2, 48}), chains{{3, 6, 48}}},
		{"rights of A that two others have", with(4, [3]uint32{0, 1, 1}, [3]uint32{0, 2, 2}, [3]uint32{1, 3, 4}, [3]uint32{2, 3, 4}), with(4, [3]uint32{0, 1, 1}, [3]uint32{0, 2, 2}, [3]uint32{1, 3, 4}, [3]uint32{2, 3, 4}), chains{{3, 4, 8}}},
		{"rights in addition to others", with(3, [3]uint32{0, 1, 1}, [3]uint32{1, 2, 2}, [3]uint32{0, 2, 16}), with(3, [3]uint32{0, 1, 1}, [3]uint32{1, 2, 2}, [3]uint32{0, 2, 28}), chains{{1, 2, 12}}},
		{"A without rights", with(2, [3]uint32{1, 1, 2}), api.Matrix{{0, 4}, {0, 6}}, chains{{0, 2, 4}}},
		{"B without rights", with(2, [3]uint32{1, 0, 2}), api.Matrix{{0, 0}, {6, 4}}, chains{{2, 0, 4}}},
		{"A and B without rights", empty(2, 2), api.Matrix{{5, 5}, {5, 5}}, chains{{0, 0, 5}}},
		{"C without rights", line, line, chains{{1, 2, 0}, {0, 0, 0}}},
		{"all rights", empty(3, 3), api.Matrix{{all, all, all}, {all, all, all}, {all, all, all}}, chains{{0, 0, all}}},
		{"the last right", with(3, [3]uint32{0, 1, high}, [3]uint32{1, 2, high}), with(3, [3]uint32{0, 1, high}, [3]uint32{1, 2, high}, [3]uint32{0, 2, high}), chains{{high, high, high}}},
		{"rules that need each other", with(4, [3]uint32{0, 1, 1}, [3]uint32{1, 2, 2}, [3]uint32{2, 3, 8}), with(4, [3]uint32{0, 1, 1}, [3]uint32{1, 2, 2}, [3]uint32{0, 2, 4}, [3]uint32{2, 3, 8}, [3]uint32{0, 3, 16}), chains{{4, 8, 16}, {1, 2, 4}}},
		{"a cycle", with(3, [3]uint32{0, 1, 1}, [3]uint32{1, 2, 1}, [3]uint32{2, 0, 1}), api.Matrix{{1, 1, 1}, {1, 1, 1}, {1, 1, 1}}, chains{{1, 1, 1}}},
	}
	for _, c := range cases {
		got, e := Close(len(c.m), c.m, c.l.list())
		if !same(got, c.want) || e != api.OK {
			t.Errorf("%s: %v %d, want %v", c.name, got, e, c.want)
		}
		for x, row := range c.want {
			for y, rights := range row {
				if is, e := Safe(len(c.m), c.m, c.l.list(), x, y, rights); is || e != api.OK {
					t.Errorf("%s: %d is safe from %d: %v %d", c.name, y, x, is, e)
				}
				if is, e := Safe(len(c.m), c.m, c.l.list(), x, y, rights+1); is != (rights != all) || e != api.OK {
					t.Errorf("%s: %d is safe from %d having one more: %v %d", c.name, y, x, is, e)
				}
			}
		}
	}
}

func TestSteps(t *testing.T) {
	line := with(6, [3]uint32{0, 1, 1}, [3]uint32{1, 2, 1}, [3]uint32{2, 3, 1}, [3]uint32{3, 4, 1}, [3]uint32{4, 5, 1})
	for y, want := range []int{-1, 0, 1, 2, 2, 3} {
		wantSteps(t, "a line by halves", line, chains{{1, 1, 1}}.list(), 0, y, 1, want)
	}
	passed := with(6, [3]uint32{0, 1, 1}, [3]uint32{1, 2, 1}, [3]uint32{2, 3, 1}, [3]uint32{3, 4, 1}, [3]uint32{4, 5, 3})
	for x, want := range []int{4, 3, 2, 1, 0, -1} {
		wantSteps(t, "a right passed along a line", passed, chains{{1, 2, 2}}.list(), x, 5, 2, want)
	}
	carried := with(6, [3]uint32{5, 4, 3}, [3]uint32{4, 3, 1}, [3]uint32{3, 2, 1}, [3]uint32{2, 1, 1}, [3]uint32{1, 0, 1})
	for y, want := range []int{4, 3, 2, 1, 0, -1} {
		wantSteps(t, "a right carried along a line", carried, chains{{2, 1, 2}}.list(), 5, y, 2, want)
	}
}

// TestRightsAreThereTogether asks for rights that are obtained in different rounds.
func TestRightsAreThereTogether(t *testing.T) {
	m := with(4, [3]uint32{0, 1, 1}, [3]uint32{1, 2, 2}, [3]uint32{2, 2, 4}, [3]uint32{0, 2, 64})
	l := chains{{8, 4, 16}, {1, 2, 8}, {24, 4, 32}}.list()
	for right, want := range map[uint32]int{0: 0, 64: 0, 8: 1, 72: 1, 16: 2, 24: 2, 80: 2, 32: 3, 96: 3, 120: 3, 1: -1, 9: -1, 127: -1, 128: -1, all: -1, 1<<31 | 8: -1} {
		wantSteps(t, "rights of several rounds", m, l, 0, 2, right, want)
	}
	for _, pair := range [][2]int{{0, 0}, {3, 3}, {3, 0}} {
		wantSteps(t, "no right at all", m, l, pair[0], pair[1], 0, 0)
		wantSteps(t, "some right", m, l, pair[0], pair[1], 1, -1)
	}
}

// TestLongWalk has a right walk over subjects, and become the next one at each step: 45 matrices in turn.
func TestLongWalk(t *testing.T) {
	const subjects, rights, step = 5, 9, 1 << 20
	m := empty(subjects, subjects)
	var l []api.Chain
	for i := range subjects {
		m[i][(i+1)%subjects] = step
	}
	for i := range rights {
		l = append(l, api.Chain{A: 1 << i, B: step, C: 1 << ((i + 1) % rights)})
	}
	m[0][0] = 1
	for want := range subjects * rights {
		wantSteps(t, "a long walk", m, l, 0, want%subjects, 1<<(want%rights), want)
	}
	want := copyOf(m)
	for y := range want[0] {
		want[0][y] |= 1<<rights - 1
	}
	if got, e := Close(subjects, m, l); !same(got, want) || e != api.OK {
		t.Errorf("%v %d, want %v", got, e, want)
	}
}

// TestLimits has as many subjects and rules as there may be, and as few.
func TestLimits(t *testing.T) {
	m := empty(api.MaxPart, api.MaxPart)
	m[5][5], m[5][0] = 1, 7
	l := slices.Repeat([]api.Chain{{A: 1 << 30, B: 1 << 30, C: all}}, api.MaxRules-1)
	l = append(l, api.Chain{A: 1, B: 7, C: 1 << 31})
	want := copyOf(m)
	want[5][0] |= 1 << 31
	if got, e := Close(api.MaxPart, m, l); !same(got, want) || e != api.OK {
		t.Errorf("the most of all: %v %d, want %v", got, e, want)
	}
	wantSteps(t, "the most of all", m, l, 5, 0, 1<<31, 1)
	wantSteps(t, "the most of all", m, l, 0, 5, 1, -1)
	if got, e := Close(1, api.Matrix{{9}}, nil); !same(got, api.Matrix{{9}}) || e != api.OK {
		t.Errorf("the fewest of all: %v %d", got, e)
	}
	wantSteps(t, "the fewest of all", api.Matrix{{9}}, nil, 0, 0, 9, 0)
	wantSteps(t, "the fewest of all", api.Matrix{{9}}, nil, 0, 0, 2, -1)
}

// TestArgumentsAreKept has more behind each list, which must neither count nor change, and rows that share memory.
func TestArgumentsAreKept(t *testing.T) {
	words := []uint32{0, 1, 0, 0, 0, 2, 1, 1, 1, 4, 4, 4}
	rows := api.Matrix{words[0:3], words[3:6], words[0:3], words[6:9], nil}
	rules := []api.Chain{{A: 1, B: 2, C: 4}, {A: 4, B: 0, C: 8}, {A: 0, B: 0, C: all}}
	m, l := rows[:3], rules[:2]
	wordsBefore, rulesBefore := slices.Clone(words), slices.Clone(rules)
	kept := func(name string) {
		if !slices.Equal(words, wordsBefore) || !slices.Equal(rules, rulesBefore) || len(rows[3]) != 3 || rows[4] != nil {
			t.Errorf("after %s, the arguments are %v and %v", name, words, rules)
		}
		copy(words, wordsBefore)
	}
	want := api.Matrix{{8, 9, 12}, {0, 0, 2}, {8, 9, 12}}
	for range 2 {
		got, e := Close(3, m, l)
		if !same(got, want) || e != api.OK {
			t.Errorf("%v %d, want %v", got, e, want)
		}
		kept("Close")
		wantSteps(t, "rows that share memory", m, l, 2, 0, 8, 2)
		kept("Steps and Safe")
		// Neither the arguments nor a later call must see what is written into a result, and the other way round.
		for i := range words {
			words[i] = 79
		}
		if !same(got, want) {
			t.Errorf("the result has become %v", got)
		}
		copy(words, wordsBefore)
		for i, row := range got {
			clear(row)
			got[i] = append(row, 77)
			for _, other := range got[i+1:] {
				if other[2] == 0 || slices.Contains(other, 77) {
					t.Errorf("rows of the result share memory: %v", got)
				}
			}
		}
		kept("a change of the result")
	}
	without, e := Close(3, m, nil)
	if !same(without, m) || e != api.OK {
		t.Errorf("without rules: %v %d", without, e)
	}
	without[0][0], without[1][1] = 77, 77
	if without[2][0] == 77 {
		t.Errorf("rows of the result share memory: %v", without)
	}
	kept("a change of the result without rules")
}

func TestNilAndEmptyListsAreTheSame(t *testing.T) {
	for _, l := range [][]api.Chain{nil, {}} {
		if got, e := Close(2, api.Matrix{{1, 2}, {3, 4}}, l); !same(got, api.Matrix{{1, 2}, {3, 4}}) || e != api.OK {
			t.Errorf("%v %d", got, e)
		}
		for _, m := range []api.Matrix{nil, {}} {
			if got, e := Close(1, m, l); len(got) != 0 || e != api.ErrForm {
				t.Errorf("%v %d, want error %d", got, e, api.ErrForm)
			}
		}
		for _, row := range [][]uint32{nil, {}} {
			if got, e := Close(1, api.Matrix{row}, l); len(got) != 0 || e != api.ErrForm {
				t.Errorf("%v %d, want error %d", got, e, api.ErrForm)
			}
		}
	}
}
