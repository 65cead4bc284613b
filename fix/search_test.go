package fix

import (
	"slices"
	"testing"

	"syllogist/api"
)

// The functions of this file follow the document's words alone, and share no code with the program.

func within(a, b uint32) bool { return a&b == a }

func wantRises(f []uint32) bool {
	for a := range f {
		for b := range f {
			if within(uint32(a), uint32(b)) && !within(f[a], f[b]) {
				return false
			}
		}
	}
	return true
}

func wantAll(f []uint32) []uint32 {
	var points []uint32
	for s, value := range f {
		if value == uint32(s) {
			points = append(points, value)
		}
	}
	return points
}

// outermost returns the one fixed point of which the relation to all others is true.
func outermost(t *testing.T, points []uint32, related func(a, b uint32) bool) uint32 {
	t.Helper()
	var found []uint32
	for _, a := range points {
		if !slices.ContainsFunc(points, func(b uint32) bool { return !related(a, b) }) {
			found = append(found, a)
		}
	}
	if len(found) != 1 {
		t.Fatalf("%v of %v", found, points)
	}
	return found[0]
}

// compare returns whether the map is monotone.
func compare(t *testing.T, n int, f []uint32) bool {
	t.Helper()
	want := result{rises: wantRises(f), all: wantAll(f)}
	if want.rises {
		want.least = outermost(t, want.all, within)
		want.most = outermost(t, want.all, func(a, b uint32) bool { return within(b, a) })
	} else {
		want.errs = [4]api.Errno{2: api.ErrNone, 3: api.ErrNone}
	}
	if got := callAll(n, f); !same(got, want) {
		t.Fatalf("%d things, %v: %+v, want %+v", n, f, got, want)
	}
	return want.rises
}

// TestSmallMaps goes through all maps of the subsets of one and of two things.
func TestSmallMaps(t *testing.T) {
	for n := 1; n <= 2; n++ {
		monotone := 0
		for word := range 1 << (n << n) {
			f := make([]uint32, 1<<n)
			for s := range f {
				f[s] = uint32(word>>(s*n)) & (1<<n - 1)
			}
			if compare(t, n, f) {
				monotone++
			}
		}
		// Each thing of a value is a monotone condition of its own: there are 3 of one thing, and 6 of two.
		if want := []int{1: 3, 2: 36}[n]; monotone != want {
			t.Errorf("%d things: %d monotone maps, want %d", n, monotone, want)
		}
	}
}

// TestMonotoneMapsOfThree goes through all monotone maps of the subsets of three things:
// each thing of a value is one of the 20 monotone conditions.
func TestMonotoneMapsOfThree(t *testing.T) {
	var conditions []uint32
	for table := range uint32(256) {
		f := make([]uint32, 8)
		for s := range f {
			f[s] = table >> s & 1
		}
		if wantRises(f) {
			conditions = append(conditions, table)
		}
	}
	if len(conditions) != 20 {
		t.Fatalf("%d conditions", len(conditions))
	}
	f := make([]uint32, 8)
	for _, a := range conditions {
		for _, b := range conditions {
			for _, c := range conditions {
				for s := range f {
					f[s] = a>>s&1 | b>>s&1<<1 | c>>s&1<<2
				}
				if !compare(t, 3, f) {
					t.Fatalf("%v is not monotone", f)
				}
			}
		}
	}
}

// TestManyMaps mixes the numbers of a fixed sequence into maps of every size:
// monotone ones, those with one element changed, and arbitrary ones.
func TestManyMaps(t *testing.T) {
	state := uint32(1618033)
	next := func(bits int) uint32 {
		state = state*1664525 + 1013904223
		return state >> (32 - bits)
	}
	for round := range 6000 {
		n := 1 + round%api.MaxWords
		parts := make([]uint32, 1<<n)
		for s := range parts {
			parts[s] = next(n) & next(n) & next(n) & next(n)
		}
		parts[0] &= next(n)
		compare(t, n, parts)
		f := unions(parts)
		if round/api.MaxWords%2 == 1 {
			f = complements(n, f)
		}
		if !compare(t, n, f) {
			t.Fatalf("%d things: %v is not monotone", n, f)
		}
		f[next(n)] ^= 1 << (next(16) % uint32(n))
		compare(t, n, f)
	}
}

// unions maps each set to what all its subsets are mapped to, together: a monotone map.
func unions(parts []uint32) []uint32 {
	f := make([]uint32, len(parts))
	for s := range f {
		for part, value := range parts {
			if within(uint32(part), uint32(s)) {
				f[s] |= value
			}
		}
	}
	return f
}

// complements maps the complement of each set to the complement of its value: this is monotone if the map was.
func complements(n int, f []uint32) []uint32 {
	whole := uint32(1)<<n - 1
	g := make([]uint32, len(f))
	for s, value := range f {
		g[whole&^uint32(s)] = whole &^ value
	}
	return g
}
