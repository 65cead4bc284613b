package rights

import (
	"slices"
	"testing"

	"syllogist/api"
)

// The functions of this file follow the document's words alone, and share no code with the program.

// never is the number of rounds after which one has a right that one never has.
const never = 1 << 20

// rounds has, for each two subjects, the number of rounds after which one has each single right over the other one.
type rounds [][][32]int

// lastOf returns the number of rounds after which x has all rights of a word over y.
func (r rounds) lastOf(x, y int, rights uint32) int {
	last := 0
	for bit, number := range r[x][y] {
		if rights&(1<<bit) != 0 && number > last {
			last = number
		}
	}
	return last
}

// improve lowers the numbers of the rights that a rule gives to x over z by what x has over y, and y over z.
func (r rounds) improve(c api.Chain, x, y, z int) bool {
	number, better := max(r.lastOf(x, y, c.A), r.lastOf(y, z, c.B))+1, false
	for bit := range 32 {
		if c.C&(1<<bit) != 0 && r[x][z][bit] > number {
			r[x][z][bit], better = number, true
		}
	}
	return better
}

// search finds the rounds of all rights: a right is there one round after the last of those that a rule needs.
func search(n int, m api.Matrix, l []api.Chain) rounds {
	r := make(rounds, n)
	for x := range n {
		r[x] = make([][32]int, n)
		for y := range n {
			for bit := range 32 {
				if m[x][y]&(1<<bit) == 0 {
					r[x][y][bit] = never
				}
			}
		}
	}
	for better := true; better; {
		better = false
		for _, c := range l {
			for at := range n * n * n {
				if r.improve(c, at%n, at/n%n, at/n/n) {
					better = true
				}
			}
		}
	}
	return r
}

// matrix returns the rights that there are after any number of rounds.
func (r rounds) matrix() api.Matrix {
	m := empty(len(r), len(r))
	for x := range r {
		for y := range r {
			for bit, number := range r[x][y] {
				if number < never {
					m[x][y] |= 1 << bit
				}
			}
		}
	}
	return m
}

// wantResults calls all three functions, and returns the numbers of rounds that it found: -1 for ErrNone.
func wantResults(t *testing.T, m api.Matrix, l []api.Chain, rights []uint32) []int {
	t.Helper()
	n := len(m)
	r, before, rulesBefore := search(n, m, l), copyOf(m), slices.Clone(l)
	want := r.matrix()
	if got, e := Close(n, m, l); !same(got, want) || e != api.OK {
		t.Fatalf("%v and %v: %v %d, want %v", m, l, got, e, want)
	}
	var found []int
	for x := range n {
		for y := range n {
			for _, right := range rights {
				steps := r.lastOf(x, y, right)
				if steps >= never {
					steps = -1
				}
				wantSteps(t, "a search", m, l, x, y, right, steps)
				found = append(found, steps)
			}
		}
	}
	if !same(m, before) || !slices.Equal(l, rulesBefore) {
		t.Fatalf("the arguments %v and %v have become %v and %v", before, rulesBefore, m, l)
	}
	if t.Failed() {
		t.Fatalf("the arguments are %v and %v", m, l)
	}
	return found
}

// digits returns a list of numbers below base, by the digits of one number.
func digits(number, base, many int) []uint32 {
	list := make([]uint32, many)
	for i := range list {
		list[i] = uint32(number % base)
		number /= base
	}
	return list
}

// matrices returns all matrices of n subjects with words of rights below base.
func matrices(n, base int) []api.Matrix {
	many := 1
	for range n * n {
		many *= base
	}
	list := make([]api.Matrix, many)
	for i := range list {
		list[i] = slices.Collect(slices.Chunk(digits(i, base, n*n), n))
	}
	return list
}

// rules returns all rules with words of rights below base.
func rules(base int) []api.Chain {
	list := make([]api.Chain, base*base*base)
	for i := range list {
		d := digits(i, base, 3)
		list[i] = api.Chain{A: d[0], B: d[1], C: d[2]}
	}
	return list
}

// adds tells whether a rule adds a right to a matrix.
func adds(m api.Matrix, c api.Chain) bool {
	for x := range m {
		for y := range m {
			for z := range m {
				if m[x][y]&c.A == c.A && m[y][z]&c.B == c.B && m[x][z]|c.C != m[x][z] {
					return true
				}
			}
		}
	}
	return false
}

// contains tells whether a has all rights of b.
func contains(a, b api.Matrix) bool {
	for x := range a {
		for y := range a {
			if a[x][y]|b[x][y] != a[x][y] {
				return false
			}
		}
	}
	return true
}

// wantSmallest holds Close of each matrix against all matrices that there are to which no rule adds a right.
func wantSmallest(t *testing.T, every []api.Matrix, l []api.Chain) {
	t.Helper()
	var kept []api.Matrix
	for _, m := range every {
		if !slices.ContainsFunc(l, func(c api.Chain) bool { return adds(m, c) }) {
			kept = append(kept, m)
		}
	}
	for _, m := range every {
		got, e := Close(len(m), m, l)
		if e != api.OK || !contains(got, m) || !slices.ContainsFunc(kept, func(k api.Matrix) bool { return same(k, got) }) {
			t.Fatalf("%v and %v: %v %d, to which a rule adds a right, or which lacks one", m, l, got, e)
		}
		for _, k := range kept {
			if contains(k, m) && !contains(k, got) {
				t.Fatalf("%v and %v: %v, though no rule adds a right to %v", m, l, got, k)
			}
		}
	}
}

// TestSmallestOfAllMatrices goes through all matrices of two and three subjects with one or two rights.
func TestSmallestOfAllMatrices(t *testing.T) {
	two, one := matrices(2, 4), matrices(3, 2)
	for i, first := range rules(4) {
		wantSmallest(t, two, []api.Chain{first})
		second := rules(4)[(i*37+11)%64]
		wantSmallest(t, two, []api.Chain{first, second})
	}
	for _, first := range rules(2) {
		for _, second := range rules(2) {
			wantSmallest(t, one, []api.Chain{first, second})
		}
	}
	wantSmallest(t, two, nil)
	wantSmallest(t, one, nil)
}

// TestAllSmallMatrices compares all functions with the search, on the same matrices and others of one subject.
func TestAllSmallMatrices(t *testing.T) {
	for _, first := range rules(4) {
		for i, m := range matrices(2, 4) {
			wantResults(t, m, []api.Chain{first, rules(4)[(i*29+7)%64]}, []uint32{0, 1, 2, 3, 4})
		}
	}
	for _, first := range rules(8) {
		for _, m := range matrices(1, 8) {
			wantResults(t, m, []api.Chain{first}, []uint32{0, 1, 2, 3, 4, 5, 6, 7, 8})
		}
	}
	for _, first := range rules(2) {
		for _, m := range matrices(3, 2) {
			wantResults(t, m, []api.Chain{first}, []uint32{0, 1, 2})
		}
	}
}

// sequence is a fixed sequence of numbers.
type sequence uint32

func (s *sequence) below(n int) int {
	*s = *s*1664525 + 1013904223
	return int(*s>>8) % n
}

// word returns some of five rights, of which one is the last: most often one, and seldom none.
func (s *sequence) word() uint32 {
	list := [...]uint32{1, 2, 4, 8, 1 << 31}
	word := list[s.below(5)]
	switch s.below(12) {
	case 0:
		return 0
	case 1, 2, 3:
		word |= list[s.below(5)]
	}
	return word
}

// arguments returns a matrix in which few have rights, and rules.
func (s *sequence) arguments() (api.Matrix, []api.Chain) {
	n, l := 1+s.below(api.MaxPart), make([]api.Chain, s.below(api.MaxRules+1))
	m := empty(n, n)
	for range s.below(2*n + 1) {
		m[s.below(n)][s.below(n)] |= s.word()
	}
	for i := range l {
		l[i] = api.Chain{A: s.word(), B: s.word(), C: s.word()}
	}
	return m, l
}

// TestManyMatrices compares all functions with the search on matrices of a fixed sequence.
func TestManyMatrices(t *testing.T) {
	var s sequence
	counts := map[int]int{}
	for range 6000 {
		m, l := s.arguments()
		found := wantResults(t, m, l, []uint32{s.word(), s.word() | s.word(), 1 << 7})
		for _, steps := range found {
			counts[steps]++
		}
	}
	for steps := -1; steps <= 6; steps++ {
		if counts[steps] < 20 {
			t.Errorf("only %d results of %d rounds: %v", counts[steps], steps, counts)
		}
	}
}

// TestManyErrors breaks arguments of a fixed sequence in several ways at once.
func TestManyErrors(t *testing.T) {
	var s sequence
	numbers := []int{-1, 0, 1, 2, 3, 4, 5, 6, 7, 1 << 40}
	counts := map[api.Errno]int{}
	for range 20000 {
		m, l := s.arguments()
		n, x, y, right := len(m), s.below(len(m)), s.below(len(m)), s.word()
		if s.below(4) == 0 {
			n = numbers[s.below(len(numbers))]
		}
		if s.below(6) == 0 {
			l = make([]api.Chain, api.MaxRules+s.below(3))
		}
		if s.below(3) == 0 {
			i := s.below(len(m))
			m[i] = make([]uint32, s.below(8))
		}
		if s.below(4) == 0 {
			x = numbers[s.below(len(numbers))]
		}
		if s.below(4) == 0 {
			y = numbers[s.below(len(numbers))]
		}
		want := wantError(n, m, l)
		if got, e := Close(n, m, l); e != want || e != api.OK && len(got) != 0 {
			t.Fatalf("%d, %v and %v: %v %d, want error %d", n, m, l, got, e, want)
		}
		if want == api.OK && !(x >= 0 && x < n && y >= 0 && y < n) {
			want = api.ErrArg
		}
		if got, e := Safe(n, m, l, x, y, right); e != want || e != api.OK && got {
			t.Fatalf("%d, %v, %v, %d and %d: %v %d, want error %d", n, m, l, x, y, got, e, want)
		}
		if want == api.OK && search(n, m, l).lastOf(x, y, right) >= never {
			want = api.ErrNone
		}
		if got, e := Steps(n, m, l, x, y, right); e != want || e != api.OK && got != 0 {
			t.Fatalf("%d, %v, %v, %d and %d: %d %d, want error %d", n, m, l, x, y, got, e, want)
		}
		counts[want]++
	}
	for _, e := range []api.Errno{api.OK, api.ErrLarge, api.ErrForm, api.ErrArg, api.ErrNone} {
		if counts[e] < 500 {
			t.Errorf("only %d results with error %d: %v", counts[e], e, counts)
		}
	}
}

// wantError returns the first of the common errors.
func wantError(n int, m api.Matrix, l []api.Chain) api.Errno {
	if !(n >= 1 && n <= 6) || len(l) > 10 {
		return api.ErrLarge
	}
	form := len(m) == n
	for _, row := range m {
		form = form && len(row) == n
	}
	if !form {
		return api.ErrForm
	}
	return api.OK
}
