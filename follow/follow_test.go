package follow

import (
	"math"
	"slices"
	"testing"

	"syllogist/api"
)

// result holds what all functions return for one list of implications, one set and one implication.
type result struct {
	set          uint32
	does         bool
	closed, keys []uint32
	least        []api.Rule
	errs         [5]api.Errno
}

func callAll(n int, rules []api.Rule, s uint32, r api.Rule) result {
	var got result
	got.set, got.errs[0] = Close(n, rules, s)
	got.does, got.errs[1] = Does(n, rules, r)
	got.closed, got.errs[2] = Closed(n, rules)
	got.keys, got.errs[3] = Keys(n, rules)
	got.least, got.errs[4] = Least(n, rules)
	return got
}

func same(a, b result) bool {
	return a.set == b.set && a.does == b.does && a.errs == b.errs &&
		slices.Equal(a.closed, b.closed) && slices.Equal(a.keys, b.keys) && slices.Equal(a.least, b.least)
}

// failed is the result of five calls that all return one error.
func failed(e api.Errno) result {
	return result{errs: [5]api.Errno{e, e, e, e, e}}
}

func TestErrorsOfAllFunctions(t *testing.T) {
	long := slices.Repeat([]api.Rule{{If: 1, Then: 1}}, api.MaxRules+1)
	wrong := api.Rule{If: 1 << 31, Then: 1}
	cases := []struct {
		name  string
		n     int
		rules []api.Rule
		want  api.Errno
	}{
		{"no things", 0, nil, api.ErrLarge},
		{"fewer than no things", -1, nil, api.ErrLarge},
		{"least number", math.MinInt, nil, api.ErrLarge},
		{"too many things", api.MaxPart + 1, nil, api.ErrLarge},
		{"as many things as a word has bits", 32, nil, api.ErrLarge},
		{"greatest number", math.MaxInt, nil, api.ErrLarge},
		{"too many implications", 1, long, api.ErrLarge},
		{"too many implications before a wrong one", 1, append([]api.Rule{wrong}, long...), api.ErrLarge},
		{"no things before a wrong implication", 0, []api.Rule{wrong}, api.ErrLarge},
		{"too many things before a wrong implication", 7, []api.Rule{wrong}, api.ErrLarge},
		{"If has n", 3, []api.Rule{{If: 8, Then: 1}}, api.ErrRange},
		{"Then has n", 3, []api.Rule{{If: 1, Then: 8}}, api.ErrRange},
		{"If and Then have n", 3, []api.Rule{{If: 8, Then: 8}}, api.ErrRange},
		{"a thing beside a wrong one", 3, []api.Rule{{If: 1, Then: 10}}, api.ErrRange},
		{"the last bit", 6, []api.Rule{wrong}, api.ErrRange},
		{"all bits", 6, []api.Rule{{If: 0, Then: math.MaxUint32}}, api.ErrRange},
		{"the last of the most implications", 1, append(slices.Clone(long[:api.MaxRules-1]), wrong), api.ErrRange},
	}
	for _, c := range cases {
		// The set and the implication of a question are wrong in some of the calls: that is checked with the list, or after it.
		for _, s := range []uint32{0, 1, 1 << 6, 1 << 31, math.MaxUint32} {
			if got := callAll(c.n, c.rules, s, api.Rule{If: s, Then: 1}); !same(got, failed(c.want)) {
				t.Errorf("%s, set %d: %+v, want error %d and zero values", c.name, s, got, c.want)
			}
		}
	}
}

func TestWrongQuestions(t *testing.T) {
	for n := 1; n <= api.MaxPart; n++ {
		for bit := n; bit < 32; bit++ {
			for _, s := range []uint32{1 << bit, 1<<bit | 1, math.MaxUint32} {
				if got, e := Close(n, nil, s); got != 0 || e != api.ErrRange {
					t.Errorf("Close of %d, %d things: %d, %d", s, n, got, e)
				}
				// Each of these would follow if its elements were things.
				for _, r := range []api.Rule{{If: s, Then: 0}, {If: s, Then: s}, {If: 1, Then: s}} {
					if got, e := Does(n, []api.Rule{{If: 0, Then: 1<<n - 1}}, r); got || e != api.ErrRange {
						t.Errorf("Does of %v, %d things: %t, %d", r, n, got, e)
					}
				}
			}
		}
	}
}

func TestCases(t *testing.T) {
	chain := []api.Rule{{If: 1, Then: 2}, {If: 2, Then: 4}}
	ring := []api.Rule{{If: 1, Then: 2}, {If: 2, Then: 4}, {If: 4, Then: 1}}
	cases := []struct {
		name  string
		n     int
		rules []api.Rule
		s     uint32
		r     api.Rule
		want  result
	}{
		{"the document's example", 3, chain, 1, api.Rule{If: 1, Then: 4},
			result{set: 7, does: true, closed: []uint32{0, 4, 6, 7}, keys: []uint32{1}}},
		{"the example, backwards", 3, chain, 4, api.Rule{If: 4, Then: 1},
			result{set: 4, closed: []uint32{0, 4, 6, 7}, keys: []uint32{1}}},
		{"the example, the last one first", 3, []api.Rule{chain[1], chain[0]}, 1, api.Rule{If: 1, Then: 7},
			result{set: 7, does: true, closed: []uint32{0, 4, 6, 7}, keys: []uint32{1}}},
		{"a ring", 3, ring, 2, api.Rule{If: 4, Then: 2},
			result{set: 7, does: true, closed: []uint32{0, 7}, keys: []uint32{1, 2, 4}}},
		{"no implications", 2, nil, 2, api.Rule{If: 2, Then: 3},
			result{set: 2, closed: []uint32{0, 1, 2, 3}, keys: []uint32{3}}},
		{"an implication to its own If", 2, []api.Rule{{If: 3, Then: 1}}, 2, api.Rule{If: 3, Then: 1},
			result{set: 2, does: true, closed: []uint32{0, 1, 2, 3}, keys: []uint32{3}}},
		{"an empty Then", 1, []api.Rule{{If: 0, Then: 0}}, 0, api.Rule{},
			result{does: true, closed: []uint32{0, 1}, keys: []uint32{1}}},
		{"an empty If", 2, []api.Rule{{If: 0, Then: 1}}, 0, api.Rule{If: 0, Then: 1},
			result{set: 1, does: true, closed: []uint32{1, 3}, keys: []uint32{2}}},
		{"an empty key", 1, []api.Rule{{If: 0, Then: 1}}, 0, api.Rule{If: 0, Then: 1},
			result{set: 1, does: true, closed: []uint32{1}, keys: []uint32{0}}},
		{"keys of two sizes", 3, []api.Rule{{If: 1, Then: 6}, {If: 6, Then: 1}}, 6, api.Rule{If: 2, Then: 1},
			result{set: 7, closed: []uint32{0, 2, 4, 7}, keys: []uint32{1, 6}}},
		{"the same implication twice", 2, []api.Rule{{If: 1, Then: 2}, {If: 1, Then: 3}}, 1, api.Rule{If: 1, Then: 2},
			result{set: 3, does: true, closed: []uint32{0, 2, 3}, keys: []uint32{1}}},
		{"an If that is too long", 3, []api.Rule{{If: 1, Then: 2}, {If: 3, Then: 4}}, 1, api.Rule{If: 1, Then: 6},
			result{set: 7, does: true, closed: []uint32{0, 2, 4, 6, 7}, keys: []uint32{1}}},
	}
	for _, c := range cases {
		got := callAll(c.n, c.rules, c.s, c.r)
		// Other lists than the one that Least returns may be as good, so it is checked, not compared.
		checkLeast(t, c.n, c.rules, got.least)
		got.least = nil
		if !same(got, c.want) {
			t.Errorf("%s: %+v, want %+v", c.name, got, c.want)
		}
	}
}

// TestLongList needs more implications than an argument may have: results may exceed the limit.
func TestLongList(t *testing.T) {
	var rules []api.Rule
	for _, two := range []uint32{3, 5, 6, 9, 10, 12} {
		rules = append(rules, api.Rule{If: two, Then: 48})
	}
	least, e := Least(6, rules)
	if e != api.OK || len(least) != 12 {
		t.Fatalf("%v, %d", least, e)
	}
	checkLeast(t, 6, rules, least)
}

func TestArgumentsAreKept(t *testing.T) {
	// What lies beyond the length would change every result.
	backing := []api.Rule{{If: 3, Then: 6}, {If: 1, Then: 2}, {If: 0, Then: 7}, {If: 9, Then: 99}}
	before := slices.Clone(backing)
	ask := api.Rule{If: 1, Then: 4}
	want := callAll(3, slices.Clone(backing[:2]), 1, ask)
	for range 2 {
		got := callAll(3, backing[:2], 1, ask)
		if !same(got, want) {
			t.Errorf("%+v, want %+v", got, want)
		}
		// Neither a later call nor the argument must see what is written into an earlier result.
		for i := range got.closed {
			got.closed[i] = math.MaxUint32
		}
		for i := range got.keys {
			got.keys[i] = math.MaxUint32
		}
		for i := range got.least {
			got.least[i] = api.Rule{If: math.MaxUint32, Then: math.MaxUint32}
		}
	}
	if !slices.Equal(backing, before) {
		t.Errorf("changed to %v", backing)
	}
	for n := 1; n <= api.MaxPart; n++ {
		if a, b := callAll(n, nil, 1, api.Rule{}), callAll(n, []api.Rule{}, 1, api.Rule{}); !same(a, b) {
			t.Errorf("%d: %+v for nil, %+v for an empty list", n, a, b)
		}
	}
}

// TestLeastIsNotTheArgument has lists of which nothing can be omitted, so that the result might be the argument itself.
func TestLeastIsNotTheArgument(t *testing.T) {
	rules := []api.Rule{{If: 1, Then: 2}, {If: 2, Then: 4}}
	least, _ := Least(3, rules)
	if len(least) == 2 && (&least[0] == &rules[0] || &least[1] == &rules[1]) {
		t.Error("the result shares memory with the argument")
	}
}
