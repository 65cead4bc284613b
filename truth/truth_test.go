package truth

import (
	"math"
	"slices"
	"testing"

	"syllogist/api"
)

// result holds what all functions return for one table; whole is what Whole returns for it alone.
type result struct {
	dual, sums []bool
	class      uint32
	whole      bool
	primes     []api.Clause
	errs       [5]api.Errno
}

func callAll(n int, f []bool) result {
	var got result
	got.dual, got.errs[0] = Dual(n, f)
	got.sums, got.errs[1] = Sums(n, f)
	got.class, got.errs[2] = Class(n, f)
	got.whole, got.errs[3] = Whole(n, [][]bool{f})
	got.primes, got.errs[4] = Primes(n, f)
	return got
}

func same(a, b result) bool {
	return slices.Equal(a.dual, b.dual) && slices.Equal(a.sums, b.sums) && a.class == b.class &&
		a.whole == b.whole && slices.Equal(a.primes, b.primes) && a.errs == b.errs
}

// failed is the result of five calls that all return one error.
func failed(e api.Errno) result {
	return result{errs: [5]api.Errno{e, e, e, e, e}}
}

// table is the list of the values that are written as zeros and ones, with blanks between them for the eye.
func table(text string) []bool {
	f := []bool{}
	for _, r := range text {
		if r != ' ' {
			f = append(f, r == '1')
		}
	}
	return f
}

// constant is a list of one value.
func constant(length int, value bool) []bool { return slices.Repeat([]bool{value}, length) }

func TestErrors(t *testing.T) {
	cases := []struct {
		name string
		n    int
		f    []bool
		want api.Errno
	}{
		{"fewer than no variables", -1, table("1"), api.ErrLarge},
		{"fewer than no variables and no elements", -1, nil, api.ErrLarge},
		{"least number", math.MinInt, nil, api.ErrLarge},
		{"too many variables", api.MaxVar + 1, constant(32, true), api.ErrLarge},
		{"as many variables as a word has bits", 32, nil, api.ErrLarge},
		{"as many variables as an int has bits", 64, nil, api.ErrLarge},
		{"greatest number", math.MaxInt, nil, api.ErrLarge},
		{"too many variables before a wrong length", api.MaxVar + 1, constant(16, true), api.ErrLarge},
		{"no elements for no variables", 0, nil, api.ErrForm},
		{"two elements for no variables", 0, table("01"), api.ErrForm},
		{"no elements", 1, nil, api.ErrForm},
		{"one element too few", 2, table("011"), api.ErrForm},
		{"one element too many", 2, table("01101"), api.ErrForm},
		{"the elements of one variable fewer", 4, constant(8, true), api.ErrForm},
		{"the elements of one variable more", 3, constant(16, true), api.ErrForm},
	}
	for _, c := range cases {
		if got := callAll(c.n, c.f); !same(got, failed(c.want)) {
			t.Errorf("%s: %+v, want error %d and zero values", c.name, got, c.want)
		}
	}
}

// TestLengths has every length of a table up to beyond the greatest one, for every number of variables.
func TestLengths(t *testing.T) {
	for n := 0; n <= api.MaxVar; n++ {
		for length := range 40 {
			got := callAll(n, constant(length, true))
			if length != 1<<n {
				if !same(got, failed(api.ErrForm)) {
					t.Errorf("%d variables, %d elements: %+v", n, length, got)
				}
				continue
			}
			form := constant(length, false)
			form[0] = true
			want := result{dual: constant(length, false), sums: form, class: 26, primes: []api.Clause{{}}}
			if !same(got, want) {
				t.Errorf("%d variables, all true: %+v, want %+v", n, got, want)
			}
		}
	}
}

func TestErrorsOfWhole(t *testing.T) {
	nand := table("1110")
	many := func(count int, f []bool) [][]bool { return slices.Repeat([][]bool{f}, count) }
	cases := []struct {
		name string
		n    int
		fs   [][]bool
		want api.Errno
	}{
		{"no tables, fewer than no variables", -1, nil, api.ErrLarge},
		{"no tables, too many variables", api.MaxVar + 1, nil, api.ErrLarge},
		{"no tables, least number", math.MinInt, nil, api.ErrLarge},
		{"no tables, greatest number", math.MaxInt, nil, api.ErrLarge},
		{"too many tables", 2, many(api.MaxRules+1, nand), api.ErrLarge},
		{"too many tables before wrong lengths", 2, many(api.MaxRules+1, nil), api.ErrLarge},
		{"far too many tables", 2, many(1000, nand), api.ErrLarge},
		{"too many variables before wrong lengths", api.MaxVar + 1, many(2, nand), api.ErrLarge},
		{"a wrong length first", 2, [][]bool{nil, nand, nand}, api.ErrForm},
		{"a wrong length in the middle", 2, [][]bool{nand, nand[:3], nand}, api.ErrForm},
		{"a wrong length last", 2, [][]bool{nand, nand, append(table("1110"), true)}, api.ErrForm},
		{"a wrong length in the last table of the most", 2, append(many(api.MaxRules-1, nand), nil), api.ErrForm},
	}
	for _, c := range cases {
		if got, e := Whole(c.n, c.fs); got || e != c.want {
			t.Errorf("%s: %v %d, want error %d", c.name, got, e, c.want)
		}
	}
	if got, e := Whole(2, many(api.MaxRules, nand)); !got || e != api.OK {
		t.Errorf("the most tables: %v %d", got, e)
	}
}

func TestCases(t *testing.T) {
	cases := []struct {
		name string
		n    int
		f    string
		want result
	}{
		{"the document's example", 1, "01",
			result{dual: table("01"), sums: table("01"), class: 31, primes: []api.Clause{{Yes: 1}}}},
		{"the negation", 1, "10",
			result{dual: table("10"), sums: table("11"), class: 20, primes: []api.Clause{{No: 1}}}},
		{"no variables, false", 0, "0",
			result{dual: table("1"), sums: table("0"), class: 25}},
		{"no variables, true", 0, "1",
			result{dual: table("0"), sums: table("1"), class: 26, primes: []api.Clause{{}}}},
		{"always false", 2, "0000",
			result{dual: table("1111"), sums: table("0000"), class: 25}},
		{"both", 2, "0001",
			result{dual: table("0111"), sums: table("0001"), class: 11, primes: []api.Clause{{Yes: 3}}}},
		{"one or both", 2, "0111",
			result{dual: table("0001"), sums: table("0111"), class: 11, primes: []api.Clause{{Yes: 1}, {Yes: 2}}}},
		{"one of the two", 2, "0110",
			result{dual: table("1001"), sums: table("0110"), class: 17, primes: []api.Clause{{Yes: 1, No: 2}, {Yes: 2, No: 1}}}},
		{"both or none", 2, "1001",
			result{dual: table("0110"), sums: table("1110"), class: 18, primes: []api.Clause{{No: 3}, {Yes: 3}}}},
		{"not both", 2, "1110",
			result{dual: table("1000"), sums: table("1001"), class: 0, whole: true, primes: []api.Clause{{No: 1}, {No: 2}}}},
		{"none", 2, "1000",
			result{dual: table("1110"), sums: table("1111"), class: 0, whole: true, primes: []api.Clause{{No: 3}}}},
		{"the first implies the second", 2, "1011",
			result{dual: table("0010"), sums: table("1101"), class: 2, primes: []api.Clause{{No: 1}, {Yes: 2}}}},
		{"two of three", 3, "0001 0111",
			result{dual: table("0001 0111"), sums: table("0001 0110"), class: 15,
				primes: []api.Clause{{Yes: 3}, {Yes: 5}, {Yes: 6}}}},
		{"one of three, or all", 3, "0110 1001",
			result{dual: table("0110 1001"), sums: table("0110 1000"), class: 23,
				primes: []api.Clause{{Yes: 1, No: 6}, {Yes: 2, No: 5}, {Yes: 4, No: 3}, {Yes: 7}}}},
		{"a choice, with the prime implicant that no cover needs", 3, "0011 0101",
			result{dual: table("0101 0011"), sums: table("0010 0110"), class: 3,
				primes: []api.Clause{{Yes: 2, No: 4}, {Yes: 3}, {Yes: 5}}}},
		{"a ring of six", 3, "0111 1110",
			result{dual: table("1000 0001"), sums: table("0111 1110"), class: 1,
				primes: []api.Clause{{Yes: 1, No: 2}, {Yes: 1, No: 4}, {Yes: 2, No: 1}, {Yes: 2, No: 4}, {Yes: 4, No: 1}, {Yes: 4, No: 2}}}},
		{"the fourth of four", 4, "0000 0000 1111 1111",
			result{dual: table("0000 0000 1111 1111"), sums: table("0000 0000 1000 0000"), class: 31,
				primes: []api.Clause{{Yes: 8}}}},
		{"all of four, or none", 4, "1000 0000 0000 0001",
			result{dual: table("0111 1111 1111 1110"), sums: table("1111 1111 1111 1110"), class: 2,
				primes: []api.Clause{{No: 15}, {Yes: 15}}}},
	}
	for _, c := range cases {
		if got := callAll(c.n, table(c.f)); !same(got, c.want) {
			t.Errorf("%s: %+v, want %+v", c.name, got, c.want)
		}
	}
}

func TestWhole(t *testing.T) {
	cases := []struct {
		name string
		n    int
		fs   []string
		want bool
	}{
		{"no tables", 2, nil, false},
		{"no tables of no variables", 0, nil, false},
		{"all tables of no variables", 0, []string{"0", "1"}, false},
		{"all tables of one variable", 1, []string{"00", "01", "10", "11"}, false},
		{"both, and the negation", 2, []string{"0001", "1010"}, true},
		{"the negation, and both", 2, []string{"1010", "0001"}, true},
		{"one or both, and the negation", 2, []string{"0111", "1010"}, true},
		{"one of the two, both, and true", 2, []string{"0110", "0001", "1111"}, true},
		{"the implication, and false", 2, []string{"1011", "0000"}, true},
		{"all keep false", 2, []string{"0001", "0111", "0110", "0010", "0000"}, false},
		{"all keep true", 2, []string{"0001", "0111", "1001", "1011", "1111"}, false},
		{"all are self-dual", 3, []string{"0001 0111", "1010 1010"}, false},
		{"all are monotone", 2, []string{"0001", "0111", "0000", "1111"}, false},
		{"all are affine", 2, []string{"0110", "1001", "1010", "0000", "1111"}, false},
		{"none has all classes, but all keep true", 2, []string{"1011", "0111"}, false},
		{"two of three, the negation, and true", 3, []string{"0001 0111", "1010 1010", "1111 1111"}, true},
		{"the last one alone breaks what the others share", 2, []string{"0000", "0001", "0111", "0010", "0110", "1010"}, true},
	}
	for _, c := range cases {
		var fs [][]bool
		for _, text := range c.fs {
			fs = append(fs, table(text))
		}
		if got, e := Whole(c.n, fs); got != c.want || e != api.OK {
			t.Errorf("%s: %v %d, want %v", c.name, got, e, c.want)
		}
	}
}

func TestArgumentsAreKept(t *testing.T) {
	// With what lies beyond the length, this would be a table of three variables with other classes.
	backing := table("0111 0000")
	before := slices.Clone(backing)
	want := callAll(2, table("0111"))
	for range 2 {
		got := callAll(2, backing[:4])
		if !same(got, want) {
			t.Errorf("%+v, want %+v", got, want)
		}
		// Neither a later call nor the argument must see what is written into an earlier result.
		for i := range got.dual {
			got.dual[i] = !got.dual[i]
			got.sums[i] = !got.sums[i]
		}
		for i := range got.primes {
			got.primes[i] = api.Clause{Yes: math.MaxUint32, No: math.MaxUint32}
		}
		_ = append(got.dual, true)
		_ = append(got.sums, true)
		_ = append(got.primes, api.Clause{})
	}
	if !slices.Equal(backing, before) {
		t.Errorf("changed to %v", backing)
	}
	if a, b := callAll(1, nil), callAll(1, []bool{}); !same(a, b) {
		t.Errorf("%+v for nil, %+v for an empty list", a, b)
	}
	if a, e := Whole(2, [][]bool{}); a || e != api.OK {
		t.Errorf("%v %d for an empty list of tables", a, e)
	}
}

// TestTablesOfWholeAreKept has tables that lie side by side in one list, and a wrong one beyond the length.
func TestTablesOfWholeAreKept(t *testing.T) {
	backing := table("0001 1010 1111")
	before := slices.Clone(backing)
	fs := [][]bool{backing[:4], backing[4:8], nil}
	for range 2 {
		if got, e := Whole(2, fs[:2]); !got || e != api.OK {
			t.Errorf("%v %d", got, e)
		}
	}
	if !slices.Equal(backing, before) || len(fs[0]) != 4 || len(fs[1]) != 4 || fs[2] != nil {
		t.Errorf("changed to %v, %v", backing, fs)
	}
}
