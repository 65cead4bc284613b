package order

import (
	"slices"
	"testing"

	"syllogist/api"
)

func TestLine(t *testing.T) {
	cases := []struct {
		n     int
		pairs [][2]int
		want  []int
	}{
		{1, nil, []int{0}},
		{6, nil, []int{0, 1, 2, 3, 4, 5}},
		{3, [][2]int{{0, 1}, {0, 2}}, []int{0, 1, 2}},
		{3, [][2]int{{2, 1}, {1, 0}}, []int{2, 1, 0}},
		{4, [][2]int{{3, 0}}, []int{1, 2, 3, 0}},
		{6, [][2]int{{5, 0}, {4, 1}, {0, 2}}, []int{3, 4, 1, 5, 0, 2}},
	}
	for _, c := range cases {
		if got, e := Line(c.n, c.pairs); e != api.OK || !slices.Equal(got, c.want) {
			t.Errorf("Line(%d, %v) = %v, %d, want %v", c.n, c.pairs, got, e, c.want)
		}
	}
}

func TestChain(t *testing.T) {
	cases := []struct {
		n     int
		pairs [][2]int
		want  []int
	}{
		{1, [][2]int{{0, 0}}, []int{0}},
		{6, nil, []int{0}},
		{3, [][2]int{{0, 1}, {0, 2}}, []int{0, 1}},
		{3, [][2]int{{2, 1}, {1, 0}}, []int{2, 1, 0}},
		{6, [][2]int{{0, 5}, {4, 3}, {3, 1}}, []int{4, 3, 1}},
		{6, [][2]int{{0, 1}, {0, 2}, {2, 3}, {4, 5}}, []int{0, 2, 3}},
		{6, [][2]int{{0, 4}, {4, 5}, {0, 3}, {3, 5}, {1, 3}, {0, 5}}, []int{0, 3, 5}},
	}
	for _, c := range cases {
		if got, e := Chain(c.n, c.pairs); e != api.OK || !slices.Equal(got, c.want) {
			t.Errorf("Chain(%d, %v) = %v, %d, want %v", c.n, c.pairs, got, e, c.want)
		}
	}
}

func TestApart(t *testing.T) {
	cases := []struct {
		n     int
		pairs [][2]int
		want  uint32
	}{
		{1, nil, 1},
		{6, nil, 63},
		{3, [][2]int{{0, 1}, {0, 2}}, 6},
		{3, [][2]int{{2, 1}, {1, 0}}, 1},
		{4, [][2]int{{0, 2}, {1, 2}, {0, 3}, {1, 3}}, 3},
		{3, [][2]int{{0, 1}, {1, 2}, {0, 0}}, 1},
		{6, [][2]int{{0, 1}, {2, 3}, {4, 5}}, 21},
	}
	for _, c := range cases {
		if got, e := Apart(c.n, c.pairs); e != api.OK || got != c.want {
			t.Errorf("Apart(%d, %v) = %d, %d, want %d", c.n, c.pairs, got, e, c.want)
		}
	}
}

func TestSplit(t *testing.T) {
	cases := []struct {
		n     int
		pairs [][2]int
		want  int
	}{
		{1, [][2]int{{0, 0}}, 1},
		{6, nil, 6},
		{3, [][2]int{{0, 1}, {0, 2}}, 2},
		{6, [][2]int{{5, 4}, {4, 3}, {3, 2}, {2, 1}, {1, 0}}, 1},
		// The first match, of 0 with 2, must give way, so that 1 has a thing to come before.
		{4, [][2]int{{0, 2}, {0, 3}, {1, 2}}, 2},
		// Chains that skip the thing in the middle: the extended relation counts, not the pairs.
		{5, [][2]int{{0, 2}, {1, 2}, {2, 3}, {2, 4}}, 2},
	}
	for _, c := range cases {
		got, e := Split(c.n, c.pairs)
		if e != api.OK || len(got) != c.want || !splits(c.n, reach(c.n, c.pairs), got) {
			t.Errorf("Split(%d, %v) = %v, %d, want %d chains", c.n, c.pairs, got, e, c.want)
		}
	}
}
