package downs

import (
	"math"
	"slices"
	"testing"

	"syllogist/api"
)

// result holds what all functions return for one relation and one set.
type result struct {
	all        []uint32
	many       int
	fill, edge uint32
	errs       [4]api.Errno
}

func callAll(n int, pairs [][2]int, s uint32) result {
	var r result
	r.all, r.errs[0] = All(n, pairs)
	r.many, r.errs[1] = Many(n, pairs)
	r.fill, r.errs[2] = Fill(n, pairs, s)
	r.edge, r.errs[3] = Edge(n, pairs, s)
	return r
}

func same(a, b result) bool {
	return slices.Equal(a.all, b.all) && a.many == b.many && a.fill == b.fill && a.edge == b.edge && a.errs == b.errs
}

// failed is the result of four calls that all return one error.
func failed(e api.Errno) result {
	return result{errs: [4]api.Errno{e, e, e, e}}
}

func chain(n int) [][2]int {
	var pairs [][2]int
	for a := 1; a < n; a++ {
		pairs = append(pairs, [2]int{a - 1, a})
	}
	return pairs
}

func TestErrorsOfTable(t *testing.T) {
	long := slices.Repeat([][2]int{{0, 0}}, api.MaxPairs+1)
	cycle := [][2]int{{0, 1}, {1, 0}}
	cases := []struct {
		name  string
		n     int
		pairs [][2]int
		want  api.Errno
	}{
		{"no things", 0, nil, api.ErrLarge},
		{"fewer than no things", -1, nil, api.ErrLarge},
		{"least number", math.MinInt, nil, api.ErrLarge},
		{"too many things", api.MaxPart + 1, nil, api.ErrLarge},
		{"greatest number", math.MaxInt, nil, api.ErrLarge},
		{"too many pairs", 1, long, api.ErrLarge},
		{"too many pairs before a wrong thing", 2, append(slices.Clone(long), [2]int{0, 2}), api.ErrLarge},
		{"no things before a wrong thing", 0, [][2]int{{0, 0}}, api.ErrLarge},
		{"first is n", 3, [][2]int{{3, 0}}, api.ErrArg},
		{"second is negative", 3, [][2]int{{0, -1}}, api.ErrArg},
		{"wrong thing after a cycle", 3, append(slices.Clone(cycle), [2]int{0, 3}), api.ErrArg},
		{"cycle", 2, cycle, api.ErrForm},
		{"long cycle", 6, [][2]int{{5, 4}, {4, 3}, {3, 2}, {2, 1}, {1, 0}, {0, 5}}, api.ErrForm},
	}
	for _, c := range cases {
		// A set with elements that are not things is checked after all errors of the order.
		for _, s := range []uint32{0, 1, 1 << 6, 1 << 31, math.MaxUint32} {
			if got := callAll(c.n, c.pairs, s); !same(got, failed(c.want)) {
				t.Errorf("%s, set %d: %+v, want error %d and zero values", c.name, s, got, c.want)
			}
		}
	}
}

func TestWrongSets(t *testing.T) {
	for n := 1; n <= api.MaxPart; n++ {
		for bit := n; bit < 32; bit++ {
			// Without the things below it the set is no down-set either: ErrRange comes first.
			for _, s := range []uint32{1 << bit, 1<<bit | 1, 1<<bit | 1<<(n-1), math.MaxUint32} {
				if got, e := Fill(n, chain(n), s); got != 0 || e != api.ErrRange {
					t.Errorf("Fill of %d in a chain of %d: %d, %d", s, n, got, e)
				}
				if got, e := Edge(n, chain(n), s); got != 0 || e != api.ErrRange {
					t.Errorf("Edge of %d in a chain of %d: %d, %d", s, n, got, e)
				}
			}
		}
	}
}

func TestCases(t *testing.T) {
	ok := [4]api.Errno{}
	open := [4]api.Errno{3: api.ErrForm}
	fork := [][2]int{{0, 1}, {0, 2}}
	cases := []struct {
		name  string
		n     int
		pairs [][2]int
		s     uint32
		want  result
	}{
		{"the document's example", 3, [][2]int{{0, 1}}, 7, result{[]uint32{0, 1, 3, 4, 5, 7}, 6, 7, 6, ok}},
		{"the upper thing alone", 3, [][2]int{{0, 1}}, 2, result{[]uint32{0, 1, 3, 4, 5, 7}, 6, 3, 0, open}},
		{"no element", 3, [][2]int{{0, 1}}, 0, result{[]uint32{0, 1, 3, 4, 5, 7}, 6, 0, 0, ok}},
		{"one thing", 1, nil, 1, result{[]uint32{0, 1}, 2, 1, 1, ok}},
		{"one thing below itself", 1, [][2]int{{0, 0}}, 1, result{[]uint32{0, 1}, 2, 1, 1, ok}},
		{"two things apart", 2, nil, 3, result{[]uint32{0, 1, 2, 3}, 4, 3, 3, ok}},
		{"fork", 3, fork, 6, result{[]uint32{0, 1, 3, 5, 7}, 5, 7, 0, open}},
		{"fork, one end", 3, fork, 5, result{[]uint32{0, 1, 3, 5, 7}, 5, 5, 4, ok}},
		{"fork upside down", 3, [][2]int{{1, 0}, {2, 0}}, 7, result{[]uint32{0, 2, 4, 6, 7}, 5, 7, 1, ok}},
		{"chain", 6, chain(6), 63, result{[]uint32{0, 1, 3, 7, 15, 31, 63}, 7, 63, 32, ok}},
		{"chain, far from the bottom", 6, chain(6), 16, result{[]uint32{0, 1, 3, 7, 15, 31, 63}, 7, 31, 0, open}},
		{"chain with a gap", 6, chain(6), 5, result{[]uint32{0, 1, 3, 7, 15, 31, 63}, 7, 7, 0, open}},
		{"falling chain", 4, [][2]int{{3, 2}, {2, 1}, {1, 0}}, 2, result{[]uint32{0, 8, 12, 14, 15}, 5, 14, 0, open}},
	}
	for _, c := range cases {
		if got := callAll(c.n, c.pairs, c.s); !same(got, c.want) {
			t.Errorf("%s: %+v, want %+v", c.name, got, c.want)
		}
	}
}

func TestMostDownSets(t *testing.T) {
	pairs := slices.Repeat([][2]int{{5, 5}}, api.MaxPairs)
	all, e := All(api.MaxPart, pairs)
	if e != api.OK || len(all) != 64 {
		t.Fatalf("%d sets, %d", len(all), e)
	}
	for i, s := range all {
		if s != uint32(i) {
			t.Errorf("set %d is %d", i, s)
		}
	}
}

func TestArgumentsAreKept(t *testing.T) {
	// What lies beyond the length would make a cycle and a wrong thing.
	backing := [][2]int{{0, 1}, {1, 0}, {9, 9}}
	before := slices.Clone(backing)
	want := callAll(3, [][2]int{{0, 1}}, 7)
	for range 2 {
		got := callAll(3, backing[:1], 7)
		if !same(got, want) {
			t.Errorf("%+v, want %+v", got, want)
		}
		// A later call must not see what is written into an earlier result.
		for i := range got.all {
			got.all[i] = math.MaxUint32
		}
	}
	if !slices.Equal(backing, before) {
		t.Errorf("changed to %v", backing)
	}
	for n := 1; n <= api.MaxPart; n++ {
		if a, b := callAll(n, nil, 1), callAll(n, [][2]int{}, 1); !same(a, b) {
			t.Errorf("%d: %+v for nil, %+v for an empty list", n, a, b)
		}
	}
}
