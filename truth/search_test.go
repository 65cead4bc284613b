package truth

import (
	"slices"
	"testing"

	"syllogist/api"
)

// The functions of this file follow the document's words alone, and share no code with the program.

func wantDual(n int, f []bool) []bool {
	var dual []bool
	for s := range 1 << n {
		complement := 0
		for variable := range n {
			if s>>variable&1 == 0 {
				complement += 1 << variable
			}
		}
		dual = append(dual, !f[complement])
	}
	return dual
}

// wantSums finds the element for each set once those for its subsets are known:
// for that set, these products and the set's own are the ones that are true.
func wantSums(f []bool) []bool {
	form := make([]bool, len(f))
	for s := range f {
		value := false
		for t := range s {
			if t&s == t && form[t] {
				value = !value
			}
		}
		form[s] = value != f[s]
	}
	return form
}

func wantClass(n int, f []bool) uint32 {
	rises := true
	for a := range f {
		for b := range f {
			if a&b == a && f[a] && !f[b] {
				rises = false
			}
		}
	}
	var word uint32
	for bit, has := range []bool{!f[0], f[1<<n-1], slices.Equal(f, wantDual(n, f)), rises, wantAffine(n, f)} {
		if has {
			word += 1 << bit
		}
	}
	return word
}

// wantAffine tries all sums of a constant and of variables.
func wantAffine(n int, f []bool) bool {
	for chosen := range 1 << n {
		equal := true
		for s := range f {
			value := f[0]
			for variable := range n {
				if chosen>>variable&1 == 1 && s>>variable&1 == 1 {
					value = !value
				}
			}
			equal = equal && value == f[s]
		}
		if equal {
			return true
		}
	}
	return false
}

func wantWhole(n int, fs [][]bool) bool {
	for bit := range 5 {
		if !slices.ContainsFunc(fs, func(f []bool) bool { return wantClass(n, f)>>bit&1 == 0 }) {
			return false
		}
	}
	return true
}

// implies tells whether a product is true only where f is true.
func implies(product api.Clause, f []bool) bool {
	for s, value := range f {
		if uint32(s)&product.Yes == product.Yes && uint32(s)&product.No == 0 && !value {
			return false
		}
	}
	return true
}

func wantPrimes(n int, f []bool) []api.Clause {
	var primes []api.Clause
	for yes := range uint32(1) << n {
		for no := range uint32(1) << n {
			product := api.Clause{Yes: yes, No: no}
			if yes&no == 0 && implies(product, f) && !canOmit(product, f) {
				primes = append(primes, product)
			}
		}
	}
	return primes
}

func canOmit(product api.Clause, f []bool) bool {
	for bit := uint32(1); bit != 0; bit <<= 1 {
		if product.Yes&bit != 0 && implies(api.Clause{Yes: product.Yes - bit, No: product.No}, f) ||
			product.No&bit != 0 && implies(api.Clause{Yes: product.Yes, No: product.No - bit}, f) {
			return true
		}
	}
	return false
}

// spread is the table of which the bits of a word are the values.
func spread(n int, word int) []bool {
	f := make([]bool, 1<<n)
	for s := range f {
		f[s] = word>>s&1 == 1
	}
	return f
}

// TestAllTables goes through all tables of all numbers of variables.
func TestAllTables(t *testing.T) {
	for n := 0; n <= api.MaxVar; n++ {
		var members [5]int
		for word := range 1 << (1 << n) {
			f := spread(n, word)
			want := result{dual: wantDual(n, f), sums: wantSums(f), class: wantClass(n, f), primes: wantPrimes(n, f)}
			want.whole = want.class == 0
			got := callAll(n, f)
			if !same(got, want) {
				t.Fatalf("%d variables, %v: %+v, want %+v", n, f, got, want)
			}
			for bit := range members {
				members[bit] += int(got.class >> bit & 1)
			}
		}
		// How many there are is known: half of all tables keep false, and half of them keep true; a self-dual one
		// is free in half of its elements; the monotone ones are counted by Dedekind's numbers.
		known := [][5]int{{1, 1, 0, 2, 2}, {2, 2, 2, 3, 4}, {8, 8, 4, 6, 8}, {128, 128, 16, 20, 16}, {32768, 32768, 256, 168, 32}}
		if members != known[n] {
			t.Errorf("%d variables: %v members of the classes, want %v", n, members, known[n])
		}
	}
}

// composes tells whether all tables of two variables can be composed of fs.
func composes(fs [][]bool) bool {
	reached := [][]bool{{false, true, false, true}, {false, false, true, true}}
	for i := 0; i < len(reached); i++ {
		for j := 0; j <= i; j++ {
			for _, f := range fs {
				for _, parts := range [2][2][]bool{{reached[i], reached[j]}, {reached[j], reached[i]}} {
					g := make([]bool, 4)
					for s := range g {
						at := 0
						for variable, part := range parts {
							if part[s] {
								at += 1 << variable
							}
						}
						g[s] = f[at]
					}
					if !slices.ContainsFunc(reached, func(h []bool) bool { return slices.Equal(g, h) }) {
						reached = append(reached, g)
					}
				}
			}
		}
	}
	return len(reached) == 16
}

// TestWholeComposes goes through all sets of tables of two variables, and composes many of them.
func TestWholeComposes(t *testing.T) {
	complete := 0
	for chosen := range 1 << 16 {
		var fs [][]bool
		for word := range 16 {
			if chosen>>word&1 == 1 {
				fs = append(fs, spread(2, word))
			}
		}
		if len(fs) > api.MaxRules {
			if got, e := Whole(2, fs); got || e != api.ErrLarge {
				t.Fatalf("%d tables: %v %d", len(fs), got, e)
			}
			continue
		}
		want := wantWhole(2, fs)
		// To compose them takes long, so that only a part of the larger sets is composed.
		if (len(fs) <= 3 || chosen%17 == 0) && composes(fs) != want {
			t.Fatalf("%v: the tables of which all others are composed are not those of all classes", fs)
		}
		if got, e := Whole(2, fs); got != want || e != api.OK {
			t.Fatalf("%v: %v %d, want %v", fs, got, e, want)
		}
		if want {
			complete++
		}
	}
	if complete == 0 {
		t.Error("no set of tables is complete")
	}
}

// TestManyLists mixes the numbers of a fixed sequence into lists of tables of every number of variables,
// with many tables that belong to some of the classes.
func TestManyLists(t *testing.T) {
	state := uint32(2718281)
	next := func(below int) int {
		state = state*1664525 + 1013904223
		return int(state>>8) % below
	}
	seen := map[bool]int{}
	for round := range 20000 {
		n := round % (api.MaxVar + 1)
		kept := uint32(next(32))
		var fs [][]bool
		for range 60 {
			f := spread(n, next(1<<16))
			if next(2) == 0 {
				f = spread(n, []int{0, 0xffff, 0xaaaa, 0x5555, 0x6666, 0x9999, 0x6996, 0xe8e8, 0x8888, 0xeeee}[next(10)])
			}
			if wantClass(n, f)&kept == kept && len(fs) < next(api.MaxRules+1) {
				fs = append(fs, f)
			}
		}
		want := wantWhole(n, fs)
		seen[want]++
		if got, e := Whole(n, fs); got != want || e != api.OK {
			t.Fatalf("%d variables, %v: %v %d, want %v", n, fs, got, e, want)
		}
	}
	if seen[true] < 100 || seen[false] < 100 {
		t.Errorf("%v", seen)
	}
}
