package order

import (
	"math"
	"slices"
	"testing"

	"syllogist/api"
)

// result holds what all functions return for one relation.
type result struct {
	table  []uint32
	covers [][2]int
	line   []int
	chain  []int
	apart  uint32
	split  [][]int
	errs   [6]api.Errno
}

func callAll(n int, pairs [][2]int) result {
	var r result
	r.table, r.errs[0] = Table(n, pairs)
	r.covers, r.errs[1] = Covers(n, pairs)
	r.line, r.errs[2] = Line(n, pairs)
	r.chain, r.errs[3] = Chain(n, pairs)
	r.apart, r.errs[4] = Apart(n, pairs)
	r.split, r.errs[5] = Split(n, pairs)
	return r
}

func (r result) hasErr(e api.Errno) bool {
	for _, got := range r.errs {
		if got != e {
			return false
		}
	}
	return true
}

func (r result) isZero() bool {
	return len(r.table) == 0 && len(r.covers) == 0 && len(r.line) == 0 && len(r.chain) == 0 && r.apart == 0 && len(r.split) == 0
}

func repeat(pair [2]int, times int) [][2]int {
	return slices.Repeat([][2]int{pair}, times)
}

func TestErrors(t *testing.T) {
	long := repeat([2]int{0, 0}, api.MaxPairs+1)
	longWrong := append(repeat([2]int{0, 1}, api.MaxPairs), [2]int{9, 9})
	cycle := [][2]int{{0, 1}, {1, 0}}
	cases := []struct {
		name  string
		n     int
		pairs [][2]int
		want  api.Errno
	}{
		{"no things", 0, nil, api.ErrLarge},
		{"negative", -1, nil, api.ErrLarge},
		{"least number", math.MinInt, nil, api.ErrLarge},
		{"too many things", api.MaxPart + 1, nil, api.ErrLarge},
		{"a multiple of the word", 32, nil, api.ErrLarge},
		{"greatest number", math.MaxInt, nil, api.ErrLarge},
		{"too many pairs", 1, long, api.ErrLarge},
		{"too many pairs before a wrong thing", 2, longWrong, api.ErrLarge},
		{"too many pairs before a cycle", 2, append(long, cycle...), api.ErrLarge},
		{"no things before a wrong thing", 0, [][2]int{{0, 0}}, api.ErrLarge},
		{"too many things before a cycle", 7, cycle, api.ErrLarge},
		{"first is n", 3, [][2]int{{3, 0}}, api.ErrArg},
		{"second is n", 3, [][2]int{{0, 3}}, api.ErrArg},
		{"first is negative", 3, [][2]int{{-1, 0}}, api.ErrArg},
		{"second is negative", 3, [][2]int{{0, -1}}, api.ErrArg},
		{"equal wrong things", 3, [][2]int{{3, 3}}, api.ErrArg},
		{"greatest thing", 3, [][2]int{{0, math.MaxInt}}, api.ErrArg},
		{"least thing", 3, [][2]int{{math.MinInt, 0}}, api.ErrArg},
		{"last pair wrong", 6, [][2]int{{0, 1}, {1, 2}, {2, 6}}, api.ErrArg},
		{"wrong thing after a cycle", 3, append(slices.Clone(cycle), [2]int{0, 3}), api.ErrArg},
		{"cycle of two", 2, cycle, api.ErrForm},
		{"cycle of three", 3, [][2]int{{0, 1}, {1, 2}, {2, 0}}, api.ErrForm},
		{"cycle of six", 6, [][2]int{{5, 4}, {4, 3}, {3, 2}, {2, 1}, {1, 0}, {0, 5}}, api.ErrForm},
		{"cycle of the last two", 6, [][2]int{{4, 5}, {5, 4}}, api.ErrForm},
	}
	for _, c := range cases {
		if r := callAll(c.n, c.pairs); !r.hasErr(c.want) || !r.isZero() {
			t.Errorf("%s: %+v, want error %d and zero values", c.name, r, c.want)
		}
	}
}

func TestLimitsAreAllowed(t *testing.T) {
	for n := 1; n <= api.MaxPart; n++ {
		if r := callAll(n, repeat([2]int{n - 1, n - 1}, api.MaxPairs)); !r.hasErr(api.OK) {
			t.Errorf("%d things: %v", n, r.errs)
		}
	}
}

func TestTable(t *testing.T) {
	cases := []struct {
		n     int
		pairs [][2]int
		want  []uint32
	}{
		{1, nil, []uint32{1}},
		{1, [][2]int{{0, 0}}, []uint32{1}},
		{3, nil, []uint32{1, 2, 4}},
		{3, [][2]int{{0, 1}, {1, 2}}, []uint32{7, 6, 4}},
		{3, [][2]int{{1, 2}, {0, 1}, {0, 1}, {2, 2}}, []uint32{7, 6, 4}},
		{6, [][2]int{{5, 4}, {4, 3}, {3, 2}, {2, 1}, {1, 0}}, []uint32{1, 3, 7, 15, 31, 63}},
		{6, [][2]int{{3, 0}, {0, 4}, {4, 1}, {1, 5}, {5, 2}}, []uint32{55, 38, 4, 63, 54, 36}},
	}
	for _, c := range cases {
		if got, e := Table(c.n, c.pairs); e != api.OK || !slices.Equal(got, c.want) {
			t.Errorf("Table(%d, %v) = %v, %d, want %v", c.n, c.pairs, got, e, c.want)
		}
	}
}

func TestCovers(t *testing.T) {
	cases := []struct {
		n     int
		pairs [][2]int
		want  [][2]int
	}{
		{1, [][2]int{{0, 0}}, nil},
		{4, nil, nil},
		{3, [][2]int{{0, 1}, {1, 2}}, [][2]int{{0, 1}, {1, 2}}},
		{3, [][2]int{{0, 2}, {1, 2}, {0, 1}, {0, 1}}, [][2]int{{0, 1}, {1, 2}}},
		{4, [][2]int{{3, 1}, {3, 2}, {1, 0}, {2, 0}, {3, 0}}, [][2]int{{1, 0}, {2, 0}, {3, 1}, {3, 2}}},
		{6, [][2]int{{5, 0}, {0, 4}, {5, 4}, {2, 3}}, [][2]int{{0, 4}, {2, 3}, {5, 0}}},
	}
	for _, c := range cases {
		if got, e := Covers(c.n, c.pairs); e != api.OK || !slices.Equal(got, c.want) {
			t.Errorf("Covers(%d, %v) = %v, %d, want %v", c.n, c.pairs, got, e, c.want)
		}
	}
}
