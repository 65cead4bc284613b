package fix

import (
	"math"
	"slices"
	"testing"

	"syllogist/api"
)

// result holds what all functions return for one map.
type result struct {
	rises       bool
	all         []uint32
	least, most uint32
	errs        [4]api.Errno
}

func callAll(n int, f []uint32) result {
	var got result
	got.rises, got.errs[0] = Rises(n, f)
	got.all, got.errs[1] = All(n, f)
	got.least, got.errs[2] = Least(n, f)
	got.most, got.errs[3] = Most(n, f)
	return got
}

func same(a, b result) bool {
	return a.rises == b.rises && a.least == b.least && a.most == b.most && a.errs == b.errs && slices.Equal(a.all, b.all)
}

// failed is the result of four calls that all return one error.
func failed(e api.Errno) result {
	return result{errs: [4]api.Errno{e, e, e, e}}
}

// risesTo is the result for a monotone map.
func risesTo(all ...uint32) result {
	least, most := all[0], all[len(all)-1]
	return result{rises: true, all: all, least: least, most: most}
}

// falls is the result for a map that is not monotone.
func falls(all ...uint32) result {
	return result{all: all, errs: [4]api.Errno{2: api.ErrNone, 3: api.ErrNone}}
}

// constant is the map of all subsets of n things to one set.
func constant(n int, s uint32) []uint32 { return slices.Repeat([]uint32{s}, 1<<n) }

// with is a copy of a map, with another value for one set.
func with(f []uint32, s, value uint32) []uint32 {
	f = slices.Clone(f)
	f[s] = value
	return f
}

func TestErrors(t *testing.T) {
	cases := []struct {
		name string
		n    int
		f    []uint32
		want api.Errno
	}{
		{"no things", 0, constant(0, 0), api.ErrLarge},
		{"no things and no elements", 0, nil, api.ErrLarge},
		{"fewer than no things", -1, constant(1, 0), api.ErrLarge},
		{"least number", math.MinInt, nil, api.ErrLarge},
		{"too many things", api.MaxWords + 1, constant(api.MaxWords+1, 0), api.ErrLarge},
		{"as many things as a word has bits", 32, nil, api.ErrLarge},
		{"as many things as an int has bits", 64, nil, api.ErrLarge},
		{"greatest number", math.MaxInt, nil, api.ErrLarge},
		{"too many things before a wrong length", api.MaxWords + 1, constant(1, 0), api.ErrLarge},
		{"too many things before a wrong element", api.MaxWords + 1, constant(api.MaxWords+1, 1<<31), api.ErrLarge},
		{"no things before a wrong element", 0, []uint32{1}, api.ErrLarge},
		{"no elements", 1, nil, api.ErrForm},
		{"one element too few", 2, constant(2, 1)[:3], api.ErrForm},
		{"one element too many", 2, append(constant(2, 1), 1), api.ErrForm},
		{"the elements of one thing fewer", 5, constant(4, 0), api.ErrForm},
		{"the elements of one thing more", 4, constant(5, 0), api.ErrForm},
		{"as many elements as things", 3, []uint32{0, 1, 2}, api.ErrForm},
		{"a wrong length before a wrong element", 1, []uint32{2}, api.ErrForm},
		{"a wrong length before a map that falls", 1, []uint32{1, 0, 0}, api.ErrForm},
		{"all elements are wrong", 1, constant(1, 2), api.ErrRange},
		{"a wrong element before a map that falls", 2, []uint32{3, 0, 0, 4}, api.ErrRange},
		{"a map that falls before a wrong element", 2, []uint32{4, 3, 0, 0}, api.ErrRange},
	}
	for _, c := range cases {
		if got := callAll(c.n, c.f); !same(got, failed(c.want)) {
			t.Errorf("%s: %+v, want error %d and zero values", c.name, got, c.want)
		}
	}
}

// TestLengths has every length of a map up to beyond the greatest one, for every number of things.
func TestLengths(t *testing.T) {
	for n := 1; n <= api.MaxWords; n++ {
		for length := range 70 {
			want := failed(api.ErrForm)
			if length == 1<<n {
				want = risesTo(1)
			}
			if got := callAll(n, slices.Repeat([]uint32{1}, length)); !same(got, want) {
				t.Errorf("%d things, %d elements: %+v, want %+v", n, length, got, want)
			}
		}
	}
}

// TestWrongElements has one wrong bit in one element, at every place.
func TestWrongElements(t *testing.T) {
	for n := 1; n <= api.MaxWords; n++ {
		whole := uint32(1)<<n - 1
		for place := range whole + 1 {
			for bit := n; bit < 32; bit++ {
				for _, value := range []uint32{1 << bit, 1<<bit | whole, math.MaxUint32} {
					if got := callAll(n, with(constant(n, whole), place, value)); !same(got, failed(api.ErrRange)) {
						t.Errorf("%d things, %d at %d: %+v", n, value, place, got)
					}
				}
			}
		}
	}
}

func TestCases(t *testing.T) {
	cases := []struct {
		name string
		n    int
		f    []uint32
		want result
	}{
		{"the document's example", 1, []uint32{1, 1}, risesTo(1)},
		{"one thing, to the empty set", 1, []uint32{0, 0}, risesTo(0)},
		{"one thing, to itself", 1, []uint32{0, 1}, risesTo(0, 1)},
		{"one thing, to the other set", 1, []uint32{1, 0}, falls()},
		{"two things, to themselves", 2, []uint32{0, 1, 2, 3}, risesTo(0, 1, 2, 3)},
		{"two things, swapped", 2, []uint32{0, 2, 1, 3}, risesTo(0, 3)},
		{"between the least and the greatest", 3, []uint32{1, 1, 1, 3, 1, 1, 1, 3}, risesTo(1, 3)},
		{"a greatest one that is not the set of all things", 2, []uint32{0, 1, 0, 1}, risesTo(0, 1)},
		{"a set that is mapped to one beside it", 2, []uint32{0, 2, 2, 3}, risesTo(0, 2, 3)},
		{"falls, with a fixed point that is least and greatest", 2, []uint32{0, 3, 0, 1}, falls(0)},
		{"falls, with fixed points of which none is the least", 2, []uint32{3, 1, 2, 0}, falls(1, 2)},
		{"falls, with a ring that starts at the empty set", 2, []uint32{1, 2, 3, 0}, falls()},
		{"falls, from one of the two alone", 2, []uint32{0, 3, 0, 2}, falls(0)},
		{"greater words, but no inclusion", 2, []uint32{1, 2, 3, 3}, falls(3)},
	}
	for _, c := range cases {
		if got := callAll(c.n, c.f); !same(got, c.want) {
			t.Errorf("%s: %+v, want %+v", c.name, got, c.want)
		}
	}
}

// TestLongWays needs as many steps as there are things, upwards and downwards.
func TestLongWays(t *testing.T) {
	for n := 1; n <= api.MaxWords; n++ {
		whole := uint32(1)<<n - 1
		up, down := make([]uint32, 1<<n), make([]uint32, 1<<n)
		for s := range whole + 1 {
			up[s] = (s<<1 | 1) & whole
			down[s] = s >> 1
		}
		if got := callAll(n, up); !same(got, risesTo(whole)) {
			t.Errorf("%d things, upwards: %+v", n, got)
		}
		if got := callAll(n, down); !same(got, risesTo(0)) {
			t.Errorf("%d things, downwards: %+v", n, got)
		}
	}
}

// TestOneFall has maps that are monotone but for one set.
func TestOneFall(t *testing.T) {
	for n := 1; n <= api.MaxWords; n++ {
		whole := uint32(1)<<n - 1
		for s := uint32(1); s <= whole; s++ {
			got := callAll(n, with(constant(n, whole), s, whole&^s))
			want := falls(whole)
			if s == whole {
				want = falls()
			}
			if !same(got, want) {
				t.Errorf("%d things, fall at %d: %+v, want %+v", n, s, got, want)
			}
		}
	}
}

func TestArgumentsAreKept(t *testing.T) {
	// What lies beyond the length is no subset of two things, and the longer map is not monotone.
	backing := []uint32{0, 1, 2, 3, 0, 0, 0, math.MaxUint32}
	before := slices.Clone(backing)
	want := risesTo(0, 1, 2, 3)
	for range 2 {
		got := callAll(2, backing[:4])
		if !same(got, want) {
			t.Errorf("%+v, want %+v", got, want)
		}
		// Neither a later call nor the argument must see what is written into an earlier result.
		for i := range got.all {
			got.all[i] = math.MaxUint32
		}
		_ = append(got.all, math.MaxUint32)
	}
	if !slices.Equal(backing, before) {
		t.Errorf("changed to %v", backing)
	}
	if a, b := callAll(1, nil), callAll(1, []uint32{}); !same(a, b) {
		t.Errorf("%+v for nil, %+v for an empty list", a, b)
	}
}
