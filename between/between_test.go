package between

import (
	"math"
	"slices"
	"testing"

	"syllogist/api"
)

// result holds what all functions return for two tables, a set of variables and a variable.
type result struct {
	follows, told        bool
	least, most, between []bool
	errs                 [5]api.Errno
}

// callAll calls all functions; Most gets the second table, and Least and Told the first one.
func callAll(n int, f, g []bool, keep uint32, v int) result {
	var got result
	got.follows, got.errs[0] = Follows(n, f, g)
	got.least, got.errs[1] = Least(n, f, keep)
	got.most, got.errs[2] = Most(n, g, keep)
	got.between, got.errs[3] = Between(n, f, g, keep)
	got.told, got.errs[4] = Told(n, f, v)
	return got
}

func same(a, b result) bool {
	return a.follows == b.follows && a.told == b.told && slices.Equal(a.least, b.least) &&
		slices.Equal(a.most, b.most) && slices.Equal(a.between, b.between) && a.errs == b.errs
}

// table is the list of the values that are written as zeros and ones, with blanks between them for the eye.
func table(text string) []bool {
	f := []bool{}
	for _, r := range text {
		if r != ' ' {
			f = append(f, r == '1')
		}
	}
	return f
}

// constant is a list of one value.
func constant(length int, value bool) []bool { return slices.Repeat([]bool{value}, length) }

// fail expects an error, and zero values, of each call that is to fail, in the order of callAll.
func fail(t *testing.T, name string, got result, want [5]api.Errno) {
	t.Helper()
	if got.errs != want {
		t.Errorf("%s: errors %v, want %v", name, got.errs, want)
	}
	zero := [5]bool{!got.follows, len(got.least) == 0, len(got.most) == 0, len(got.between) == 0, !got.told}
	for i, e := range want {
		if e != api.OK && !zero[i] {
			t.Errorf("%s: not all is zero beside the error %d: %+v", name, e, got)
		}
	}
}

func TestNumbersOfVariables(t *testing.T) {
	large := api.ErrLarge
	for _, n := range []int{math.MinInt, -64, -1, api.MaxVar + 1, 31, 32, 63, 64, math.MaxInt} {
		for _, f := range [][]bool{nil, table("1"), constant(16, true), constant(32, true)} {
			for _, keep := range []uint32{0, 1, math.MaxUint32} {
				for _, v := range []int{-1, 0, n} {
					fail(t, "too few or too many variables", callAll(n, f, f, keep, v), [5]api.Errno{large, large, large, large, large})
				}
			}
		}
	}
}

// TestLengths has every length of both tables up to beyond the greatest one, with what would be wrong after it.
func TestLengths(t *testing.T) {
	pick := func(wrong bool) api.Errno {
		if wrong {
			return api.ErrForm
		}
		return api.ErrRange
	}
	for n := 0; n <= api.MaxVar; n++ {
		for length := range 34 {
			for other := range 34 {
				first, second := length != 1<<n, other != 1<<n
				if !first && !second {
					continue
				}
				want := [5]api.Errno{api.ErrForm, pick(first), pick(second), api.ErrForm, pick(first)}
				got := callAll(n, constant(length, true), constant(other, false), 1<<n, n)
				fail(t, "a wrong length", got, want)
			}
		}
	}
}

func TestVariablesThatAreNone(t *testing.T) {
	for n := 0; n <= api.MaxVar; n++ {
		f, g := constant(1<<n, true), constant(1<<n, false)
		for bit := range 32 {
			keep := uint32(1)<<n - 1
			want := [5]api.Errno{api.OK, api.OK, api.OK, api.ErrNone, api.OK}
			if bit >= n {
				want = [5]api.Errno{api.OK, api.ErrRange, api.ErrRange, api.ErrRange, api.ErrRange}
				keep |= 1 << bit
			}
			fail(t, "bits beside all variables", callAll(n, f, g, keep, bit), want)
			if bit >= n {
				fail(t, "one bit", callAll(n, f, g, 1<<bit, bit), want)
			}
		}
		for _, v := range []int{math.MinInt, -64, -1, n, n + 64, 63, 64, math.MaxInt} {
			if is, e := Told(n, g, v); is || e != api.ErrRange {
				t.Errorf("%d variables, variable %d: %v %d", n, v, is, e)
			}
		}
	}
}

func TestTablesThatFollow(t *testing.T) {
	cases := []struct {
		name string
		n    int
		f, g string
		want bool
	}{
		{"the document's tables", 2, "0001", "0101", true},
		{"the document's tables, exchanged", 2, "0101", "0001", false},
		{"a table from itself", 2, "0110", "0110", true},
		{"true from false", 2, "0000", "1111", true},
		{"false from true", 2, "1111", "0000", false},
		{"false from false", 2, "0000", "0000", true},
		{"neither from the other", 2, "0011", "0101", false},
		{"all but the first set", 3, "1111 1111", "0111 1111", false},
		{"all but the last set", 3, "1111 1111", "1111 1110", false},
		{"no variables, false from false", 0, "0", "0", true},
		{"no variables, true from false", 0, "0", "1", true},
		{"no variables, false from true", 0, "1", "0", false},
		{"no variables, true from true", 0, "1", "1", true},
		{"the most variables", 4, "0000 0001 0000 0001", "0001 0001 0001 0001", true},
		{"the most variables, but for one set", 4, "0000 0001 0000 0001", "0001 0001 0001 0000", false},
	}
	for _, c := range cases {
		if got, e := Follows(c.n, table(c.f), table(c.g)); got != c.want || e != api.OK {
			t.Errorf("%s: %v %d, want %v", c.name, got, e, c.want)
		}
	}
}

func TestConsequencesAndConditions(t *testing.T) {
	cases := []struct {
		name        string
		n           int
		f           string
		keep        uint32
		least, most string
	}{
		{"both, and the first", 2, "0001", 1, "0101", "0000"},
		{"both, and the second", 2, "0001", 2, "0011", "0000"},
		{"both, and no variable", 2, "0001", 0, "1111", "0000"},
		{"both, and all variables", 2, "0001", 3, "0001", "0001"},
		{"the first, and the first", 2, "0101", 1, "0101", "0101"},
		{"the first, and the second", 2, "0101", 2, "1111", "0000"},
		{"one or both, and the first", 2, "0111", 1, "1111", "0101"},
		{"one or both, and the second", 2, "0111", 2, "1111", "0011"},
		{"one of the two, and the first", 2, "0110", 1, "1111", "0000"},
		{"false, and no variable", 2, "0000", 0, "0000", "0000"},
		{"true, and no variable", 2, "1111", 0, "1111", "1111"},
		{"two of three, and the last two", 3, "0001 0111", 6, "0011 1111", "0000 0011"},
		{"two of three, and the outer two", 3, "0001 0111", 5, "0101 1111", "0000 0101"},
		{"two of three, and the middle one", 3, "0001 0111", 2, "1111 1111", "0000 0000"},
		{"no variables, false", 0, "0", 0, "0", "0"},
		{"no variables, true", 0, "1", 0, "1", "1"},
		{"one set of four variables, and the last", 4, "0000 0000 1000 0000", 8, "0000 0000 1111 1111", "0000 0000 0000 0000"},
		{"all but one set of four variables, and the outer two", 4, "1111 1111 1011 1111", 9, "1111 1111 1111 1111", "1111 1111 1010 1010"},
		{"all but one set of four variables, and the last", 4, "1111 1111 1011 1111", 8, "1111 1111 1111 1111", "1111 1111 0000 0000"},
	}
	for _, c := range cases {
		if got, e := Least(c.n, table(c.f), c.keep); !slices.Equal(got, table(c.least)) || e != api.OK {
			t.Errorf("%s: Least %v %d, want %s", c.name, got, e, c.least)
		}
		if got, e := Most(c.n, table(c.f), c.keep); !slices.Equal(got, table(c.most)) || e != api.OK {
			t.Errorf("%s: Most %v %d, want %s", c.name, got, e, c.most)
		}
	}
}

func TestInterpolants(t *testing.T) {
	cases := []struct {
		name   string
		n      int
		f, g   string
		shared uint32
		want   string
		err    api.Errno
	}{
		{"the document's example", 2, "0001", "0101", 1, "0101", api.OK},
		{"the document's tables, and the other variable", 2, "0001", "0101", 2, "", api.ErrNone},
		{"the document's tables, and no variable", 2, "0001", "0101", 0, "", api.ErrNone},
		{"the document's tables, and all variables", 2, "0001", "0101", 3, "0001", api.OK},
		{"a table that does not follow", 2, "0101", "0001", 1, "", api.ErrNone},
		{"a table that does not follow, and all variables", 2, "0101", "0001", 3, "", api.ErrNone},
		{"a table that does not follow, and no variable", 2, "0101", "0001", 0, "", api.ErrNone},
		{"the strongest one rather than the weakest", 3, "0001 0000", "0111 0111", 3, "0001 0001", api.OK},
		{"the strongest one, though g is always true", 2, "0001", "1111", 1, "0101", api.OK},
		{"false, from false", 2, "0000", "0110", 0, "0000", api.OK},
		{"true, for true", 2, "0110", "1111", 0, "1111", api.OK},
		{"what the two have in common", 3, "0001 0001", "0011 1111", 2, "0011 0011", api.OK},
		{"g alone depends on what is shared", 2, "0101", "0011", 2, "", api.ErrNone},
		{"no variables, true", 0, "1", "1", 0, "1", api.OK},
		{"no variables, false", 0, "0", "1", 0, "0", api.OK},
		{"no variables, false from true", 0, "1", "0", 0, "", api.ErrNone},
		{"the most variables", 4, "0000 0000 0000 0001", "0000 0011 0011 0011", 6, "0000 0011 0000 0011", api.OK},
		{"the most variables, but for one set", 4, "0000 0000 0000 0001", "0000 0010 0011 0011", 6, "", api.ErrNone},
	}
	for _, c := range cases {
		got, e := Between(c.n, table(c.f), table(c.g), c.shared)
		if !slices.Equal(got, table(c.want)) || e != c.err {
			t.Errorf("%s: %v %d, want %s %d", c.name, got, e, c.want, c.err)
		}
	}
}

func TestVariablesThatAreDefined(t *testing.T) {
	cases := []struct {
		name string
		n    int
		f    string
		want []bool
	}{
		{"no set", 2, "0000", []bool{true, true}},
		{"all sets", 2, "1111", []bool{false, false}},
		{"one set", 3, "0000 0100", []bool{true, true, true}},
		{"a variable", 2, "0101", []bool{true, false}},
		{"a variable that is not", 2, "1100", []bool{false, true}},
		{"both or none", 2, "1001", []bool{true, true}},
		{"one of the two", 2, "0110", []bool{true, true}},
		{"one or both", 2, "0111", []bool{false, false}},
		{"one variable, either", 1, "11", []bool{false}},
		{"one variable, true", 1, "01", []bool{true}},
		{"the third is both of the others", 3, "1110 0001", []bool{false, false, true}},
		{"an even number of four", 4, "1001 0110 0110 1001", []bool{true, true, true, true}},
		{"an even number of three, beside the last", 4, "1001 0110 1001 0110", []bool{true, true, true, false}},
		{"the last two sets", 4, "0000 0000 0000 0011", []bool{false, true, true, true}},
		{"two sets that are far apart", 4, "0000 0001 0000 0001", []bool{true, true, true, false}},
	}
	for _, c := range cases {
		for v, want := range c.want {
			if got, e := Told(c.n, table(c.f), v); got != want || e != api.OK {
				t.Errorf("%s, variable %d: %v %d, want %v", c.name, v, got, e, want)
			}
		}
	}
}

// TestArgumentsAreKept has tables that lie side by side in one list, with more behind them.
func TestArgumentsAreKept(t *testing.T) {
	whole := table("0001 0101 1111 1111")
	before := slices.Clone(whole)
	f, g := whole[:4], whole[4:8]
	// One function after the other, since what one changes another one may change back.
	kept := func(name string) {
		if !slices.Equal(whole, before) {
			t.Errorf("after %s, the tables are %v", name, whole)
		}
		copy(whole, before)
	}
	calls := []struct {
		name string
		want string
		call func() ([]bool, api.Errno)
	}{
		{"Least", "0101", func() ([]bool, api.Errno) { return Least(2, f, 1) }},
		{"Least of all variables", "0001", func() ([]bool, api.Errno) { return Least(2, f, 3) }},
		{"Most", "0101", func() ([]bool, api.Errno) { return Most(2, g, 1) }},
		{"Most of no variable", "0000", func() ([]bool, api.Errno) { return Most(2, g, 0) }},
		{"Between", "0101", func() ([]bool, api.Errno) { return Between(2, f, g, 1) }},
		{"Between one table and itself", "0001", func() ([]bool, api.Errno) { return Between(2, f, f, 3) }},
	}
	for _, c := range calls {
		for range 2 {
			got, e := c.call()
			kept(c.name)
			if !slices.Equal(got, table(c.want)) || e != api.OK {
				t.Errorf("%s: %v %d, want %s", c.name, got, e, c.want)
			}
			// Neither the arguments nor a later call must see what is written into a result, and the other way round.
			for i := range got {
				got[i] = !got[i]
			}
			_ = append(got, true)
			kept(c.name)
			mine := slices.Clone(got)
			clear(whole)
			if !slices.Equal(got, mine) {
				t.Errorf("%s: the result has become %v", c.name, got)
			}
			copy(whole, before)
		}
	}
	if is, e := Follows(2, f, g); !is || e != api.OK {
		t.Errorf("Follows %v %d", is, e)
	}
	kept("Follows")
	if is, e := Told(2, f, 0); !is || e != api.OK {
		t.Errorf("Told %v %d", is, e)
	}
	kept("Told")
	if !same(callAll(1, nil, nil, 0, 0), callAll(1, []bool{}, []bool{}, 0, 0)) {
		t.Error("nil and empty lists differ")
	}
}
