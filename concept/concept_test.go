package concept

import (
	"math"
	"slices"
	"testing"

	"syllogist/api"
)

// question holds what is asked about a context.
type question struct {
	objects, marks uint32
	rule           api.Rule
}

// result holds what all functions return for one context and one question.
type result struct {
	up, down, next uint32
	all            []api.Concept
	says           bool
	errs           [5]api.Errno
}

func callAll(n int, rows []uint32, q question) result {
	var got result
	got.up, got.errs[0] = Up(n, rows, q.objects)
	got.down, got.errs[1] = Down(n, rows, q.marks)
	got.all, got.errs[2] = All(n, rows)
	got.says, got.errs[3] = Says(n, rows, q.rule)
	got.next, got.errs[4] = Next(n, rows, q.marks)
	return got
}

func same(a, b result) bool {
	return a.up == b.up && a.down == b.down && a.next == b.next && a.says == b.says && a.errs == b.errs &&
		slices.Equal(a.all, b.all)
}

// failed is the result of five calls that all return one error.
func failed(e api.Errno) result {
	return result{errs: [5]api.Errno{e, e, e, e, e}}
}

func TestErrorsOfAllFunctions(t *testing.T) {
	long := slices.Repeat([]uint32{1}, api.MaxObj+1)
	cases := []struct {
		name string
		n    int
		rows []uint32
		want api.Errno
	}{
		{"no attributes", 0, nil, api.ErrLarge},
		{"fewer than no attributes", -1, nil, api.ErrLarge},
		{"least number", math.MinInt, nil, api.ErrLarge},
		{"too many attributes", api.MaxPart + 1, nil, api.ErrLarge},
		{"as many attributes as a word has bits", 32, nil, api.ErrLarge},
		{"greatest number", math.MaxInt, nil, api.ErrLarge},
		{"too many objects", 1, long, api.ErrLarge},
		{"more objects than a word has bits", 1, slices.Repeat(long, 4), api.ErrLarge},
		{"too many objects before a wrong row", 1, append([]uint32{2}, long...), api.ErrLarge},
		{"no attributes before a wrong row", 0, []uint32{1}, api.ErrLarge},
		{"too many attributes before a wrong row", 7, []uint32{1 << 31}, api.ErrLarge},
		{"a row has n", 3, []uint32{8}, api.ErrRange},
		{"an attribute beside a wrong one", 3, []uint32{9}, api.ErrRange},
		{"the last bit", 6, []uint32{1 << 31}, api.ErrRange},
		{"all bits", 6, []uint32{math.MaxUint32}, api.ErrRange},
		{"the last of the most rows", 1, append(slices.Clone(long[:api.MaxObj-1]), 2), api.ErrRange},
	}
	for _, c := range cases {
		// The question is wrong in some of the calls; where marks are all attributes, Next has the error of the context, not its own.
		for _, s := range []uint32{0, 1, 7, 63, 1 << 6, 1 << 31, math.MaxUint32} {
			got := callAll(c.n, c.rows, question{objects: s, marks: s, rule: api.Rule{If: s, Then: s}})
			if !same(got, failed(c.want)) {
				t.Errorf("%s, set %d: %+v, want error %d and zero values", c.name, s, got, c.want)
			}
		}
	}
}

func TestWrongAttributesOfAQuestion(t *testing.T) {
	for n := 1; n <= api.MaxPart; n++ {
		rows := []uint32{0, 1<<n - 1}
		for bit := n; bit < 32; bit++ {
			for _, s := range []uint32{1 << bit, 1<<bit | 1, 1<<bit | (1<<n - 1), math.MaxUint32} {
				if got, e := Down(n, rows, s); got != 0 || e != api.ErrRange {
					t.Errorf("Down of %d, %d attributes: %d, %d", s, n, got, e)
				}
				if got, e := Next(n, rows, s); got != 0 || e != api.ErrRange {
					t.Errorf("Next of %d, %d attributes: %d, %d", s, n, got, e)
				}
				for _, r := range []api.Rule{{If: s, Then: 0}, {If: 0, Then: s}, {If: s, Then: s}} {
					if got, e := Says(n, nil, r); got || e != api.ErrRange {
						t.Errorf("Says of %v, %d attributes: %t, %d", r, n, got, e)
					}
				}
			}
		}
	}
}

func TestWrongObjects(t *testing.T) {
	for many := range api.MaxObj + 1 {
		rows := slices.Repeat([]uint32{1}, many)
		for bit := many; bit < 32; bit++ {
			for _, objects := range []uint32{1 << bit, 1<<bit | (1<<many - 1), math.MaxUint32} {
				if got, e := Up(1, rows, objects); got != 0 || e != api.ErrRange {
					t.Errorf("Up of %d, %d objects: %d, %d", objects, many, got, e)
				}
			}
		}
	}
}

func TestCases(t *testing.T) {
	example := []uint32{1, 2}
	fruit := []uint32{3, 6, 7}
	cases := []struct {
		name string
		n    int
		rows []uint32
		ask  question
		want result
	}{
		{"the document's example", 2, example, question{1, 2, api.Rule{If: 1, Then: 2}},
			result{up: 1, down: 2, next: 1, all: []api.Concept{{Objects: 3, Marks: 0}, {Objects: 1, Marks: 1}, {Objects: 2, Marks: 2}, {Objects: 0, Marks: 3}}}},
		{"the example, what no object has", 2, example, question{3, 0, api.Rule{If: 3, Then: 0}},
			result{up: 0, down: 3, next: 2, says: true, all: []api.Concept{{Objects: 3, Marks: 0}, {Objects: 1, Marks: 1}, {Objects: 2, Marks: 2}, {Objects: 0, Marks: 3}}}},
		{"no objects", 2, nil, question{0, 1, api.Rule{If: 0, Then: 3}},
			result{up: 3, next: 3, says: true, all: []api.Concept{{Marks: 3}}}},
		{"one object with nothing", 1, []uint32{0}, question{1, 0, api.Rule{If: 0, Then: 1}},
			result{down: 1, next: 1, all: []api.Concept{{Objects: 1}, {Marks: 1}}}},
		{"one object with everything", 2, []uint32{3}, question{1, 2, api.Rule{If: 1, Then: 2}},
			result{up: 3, down: 1, next: 3, says: true, all: []api.Concept{{Objects: 1, Marks: 3}}}},
		{"the empty set of objects", 3, fruit, question{0, 2, api.Rule{If: 0, Then: 2}},
			result{up: 7, down: 7, next: 6, says: true, all: []api.Concept{{Objects: 7, Marks: 2}, {Objects: 5, Marks: 3}, {Objects: 6, Marks: 6}, {Objects: 4, Marks: 7}}}},
		{"marks that no concept has", 3, fruit, question{6, 4, api.Rule{If: 4, Then: 1}},
			result{up: 6, down: 6, next: 2, all: []api.Concept{{Objects: 7, Marks: 2}, {Objects: 5, Marks: 3}, {Objects: 6, Marks: 6}, {Objects: 4, Marks: 7}}}},
		{"the same object twice", 2, []uint32{1, 1}, question{2, 1, api.Rule{If: 2, Then: 1}},
			result{up: 1, down: 3, next: 3, says: true, all: []api.Concept{{Objects: 3, Marks: 1}, {Objects: 0, Marks: 3}}}},
	}
	for _, c := range cases {
		if got := callAll(c.n, c.rows, c.ask); !same(got, c.want) {
			t.Errorf("%s: %+v, want %+v", c.name, got, c.want)
		}
	}
}

// TestNextIsNone: the set of all attributes is always the last one, and always that of a concept.
func TestNextIsNone(t *testing.T) {
	for n := 1; n <= api.MaxPart; n++ {
		for _, rows := range [][]uint32{nil, {0}, {1}, {1<<n - 1}, {1<<n - 1, 0}} {
			whole := uint32(1<<n - 1)
			if got, e := Next(n, rows, whole); got != 0 || e != api.ErrNone {
				t.Errorf("Next(%d, %v, %d) = %d, %d", n, rows, whole, got, e)
			}
			for marks := range whole {
				if _, e := Next(n, rows, marks); e != api.OK {
					t.Errorf("Next(%d, %v, %d): error %d", n, rows, marks, e)
				}
			}
		}
	}
}

// TestNextGoesThroughAll starts from the empty set, which is the first one here.
func TestNextGoesThroughAll(t *testing.T) {
	// Each object lacks one attribute: then every set is that of a concept.
	rows := []uint32{62, 61, 59, 55, 47, 31}
	var got []uint32
	for marks, e := uint32(0), api.OK; e == api.OK; {
		got = append(got, marks)
		marks, e = Next(6, rows, marks)
	}
	if len(got) != 64 || !slices.Equal(got[:8], []uint32{0, 32, 16, 48, 8, 40, 24, 56}) || got[63] != 63 {
		t.Errorf("%v", got)
	}
	if concepts, e := All(6, rows); e != api.OK || len(concepts) != 64 {
		t.Errorf("%v, %d", concepts, e)
	}
}

func TestArgumentsAreKept(t *testing.T) {
	// What lies beyond the length would change results, or be an error.
	backing := []uint32{3, 6, 0, 99}
	before := slices.Clone(backing)
	ask := question{objects: 3, marks: 2, rule: api.Rule{If: 0, Then: 2}}
	want := callAll(3, slices.Clone(backing[:2]), ask)
	for range 2 {
		got := callAll(3, backing[:2], ask)
		if !same(got, want) {
			t.Errorf("%+v, want %+v", got, want)
		}
		// A later call must not see what is written into an earlier result.
		for i := range got.all {
			got.all[i] = api.Concept{Objects: math.MaxUint32, Marks: math.MaxUint32}
		}
	}
	if !slices.Equal(backing, before) {
		t.Errorf("changed to %v", backing)
	}
	for n := 1; n <= api.MaxPart; n++ {
		if a, b := callAll(n, nil, question{}), callAll(n, []uint32{}, question{}); !same(a, b) {
			t.Errorf("%d: %+v for nil, %+v for an empty list", n, a, b)
		}
	}
}
