package follow

import (
	"slices"
	"testing"

	"syllogist/api"
)

// The functions of this file follow the document's words alone, and share no code with the program.

func isTrue(r api.Rule, s uint32) bool { return s&r.If != r.If || s&r.Then == r.Then }

func wantClosed(n int, rules []api.Rule) []uint32 {
	closed := []uint32{}
	for s := uint32(0); s < 1<<n; s++ {
		if !slices.ContainsFunc(rules, func(r api.Rule) bool { return !isTrue(r, s) }) {
			closed = append(closed, s)
		}
	}
	return closed
}

// wantClose takes the closed set that includes s and that every other such closed set includes.
func wantClose(closed []uint32, s uint32) uint32 {
	least := closed[len(closed)-1]
	for _, c := range closed {
		if c&s == s && c&least == c {
			least = c
		}
	}
	return least
}

func wantDoes(closed []uint32, r api.Rule) bool {
	return !slices.ContainsFunc(closed, func(s uint32) bool { return !isTrue(r, s) })
}

func wantKeys(n int, closed []uint32) []uint32 {
	keys := []uint32{}
	isKey := func(s uint32) bool { return wantClose(closed, s) == 1<<n-1 }
	for s := uint32(0); s < 1<<n; s++ {
		minimal := isKey(s)
		for part := uint32(0); part < s && minimal; part++ {
			minimal = part&s != part || !isKey(part)
		}
		if minimal {
			keys = append(keys, s)
		}
	}
	return keys
}

// checkLeast tries to omit each implication and each element of each If.
func checkLeast(t *testing.T, n int, rules, least []api.Rule) {
	t.Helper()
	closed := wantClosed(n, rules)
	if !slices.Equal(wantClosed(n, least), closed) {
		t.Fatalf("Least(%d, %v) = %v: not equivalent", n, rules, least)
	}
	for i, r := range least {
		if r.Then == 0 || r.Then&(r.Then-1) != 0 || r.Then&r.If != 0 {
			t.Fatalf("Least(%d, %v) = %v: the Then of %d is wrong", n, rules, least, i)
		}
		if slices.Equal(wantClosed(n, slices.Delete(slices.Clone(least), i, i+1)), closed) {
			t.Fatalf("Least(%d, %v) = %v: %d can be omitted", n, rules, least, i)
		}
		for a := range n {
			other := slices.Clone(least)
			other[i].If &^= 1 << a
			if other[i] != r && slices.Equal(wantClosed(n, other), closed) {
				t.Fatalf("Least(%d, %v) = %v: %d of %d can be omitted", n, rules, least, a, i)
			}
		}
	}
}

func compare(t *testing.T, n int, rules []api.Rule) {
	t.Helper()
	closed := wantClosed(n, rules)
	if got, e := Closed(n, rules); e != api.OK || !slices.Equal(got, closed) {
		t.Fatalf("Closed(%d, %v) = %v, %d, want %v", n, rules, got, e, closed)
	}
	keys := wantKeys(n, closed)
	if got, e := Keys(n, rules); e != api.OK || !slices.Equal(got, keys) {
		t.Fatalf("Keys(%d, %v) = %v, %d, want %v", n, rules, got, e, keys)
	}
	for s := uint32(0); s < 1<<n; s++ {
		want := wantClose(closed, s)
		if got, e := Close(n, rules, s); e != api.OK || got != want {
			t.Fatalf("Close(%d, %v, %d) = %d, %d, want %d", n, rules, s, got, e, want)
		}
	}
	least, e := Least(n, rules)
	if e != api.OK {
		t.Fatalf("Least(%d, %v): error %d", n, rules, e)
	}
	checkLeast(t, n, rules, least)
}

func compareDoes(t *testing.T, n int, rules []api.Rule, r api.Rule) {
	t.Helper()
	want := wantDoes(wantClosed(n, rules), r)
	if got, e := Does(n, rules, r); e != api.OK || got != want {
		t.Fatalf("Does(%d, %v, %v) = %t, %d, want %t", n, rules, r, got, e, want)
	}
}

func listRules(n int) []api.Rule {
	var rules []api.Rule
	for word := uint32(0); word < 1<<(2*n); word++ {
		rules = append(rules, api.Rule{If: word >> n, Then: word & (1<<n - 1)})
	}
	return rules
}

// TestShortLists goes through all lists of up to three implications over up to two things,
// and of up to two over three, with every implication as a question.
func TestShortLists(t *testing.T) {
	for n := 1; n <= 3; n++ {
		longest := []int{1: 3, 2: 3, 3: 2}[n]
		lists := [][]api.Rule{nil}
		for range longest {
			for _, list := range slices.Clone(lists) {
				for _, r := range listRules(n) {
					lists = append(lists, append(slices.Clone(list), r))
				}
			}
		}
		for _, rules := range lists {
			compare(t, n, rules)
			for _, r := range listRules(n) {
				compareDoes(t, n, rules, r)
			}
		}
	}
}

// TestManyLists mixes the numbers of a fixed sequence into lists of every length over three to six things.
func TestManyLists(t *testing.T) {
	state := uint32(12345)
	next := func(n int) uint32 {
		state = state*1664525 + 1013904223
		return state >> (32 - n)
	}
	for round := range 6000 {
		n := 3 + round%4
		rules := make([]api.Rule, round/4%(api.MaxRules+1))
		for i := range rules {
			// Where If and Then are small sets, fewer of the implications settle everything at once.
			rules[i] = api.Rule{If: next(n) & next(n), Then: next(n) & next(n)}
			if round%3 == 0 {
				rules[i].If |= next(n)
			}
		}
		compare(t, n, rules)
		for range 20 {
			compareDoes(t, n, rules, api.Rule{If: next(n), Then: next(n) & next(n)})
		}
	}
}
