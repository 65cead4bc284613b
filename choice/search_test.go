package choice

import (
	"slices"
	"testing"

	"syllogist/api"
)

// The functions of this file follow the document's words alone, and share no code with the program.

// wantErrno returns the error of Read.
func wantErrno(n int, d diagram) api.Errno {
	if n < 0 || n > api.MaxVar || len(d.nodes) > api.MaxNodes {
		return api.ErrLarge
	}
	for i, node := range d.nodes {
		known := false
		for variable := range n {
			known = known || variable == node.Var
		}
		if !known {
			return api.ErrRange
		}
		for _, to := range [2]int{node.Low, node.High} {
			valid := to == 0 || to == 1
			for j := range i {
				valid = valid || to == j+2 && d.nodes[j].Var > node.Var
			}
			if !valid {
				return api.ErrForm
			}
		}
	}
	if d.root != 0 && d.root != 1 && !slices.Contains(numbers(d), d.root) {
		return api.ErrArg
	}
	return api.OK
}

// numbers are the numbers of all nodes.
func numbers(d diagram) []int {
	var list []int
	for i := range d.nodes {
		list = append(list, i+2)
	}
	return list
}

// wantTable finds the values of each node for all sets, from the terminals up.
func wantTable(n int, d diagram) []bool {
	tables := [][]bool{make([]bool, 1<<n), slices.Repeat([]bool{true}, 1<<n)}
	for _, node := range d.nodes {
		f := make([]bool, 1<<n)
		for s := range f {
			chosen := node.Low
			if s/(1<<node.Var)%2 == 1 {
				chosen = node.High
			}
			f[s] = tables[chosen][s]
		}
		tables = append(tables, f)
	}
	return tables[d.root]
}

// canonical tells whether a valid diagram is canonical.
func canonical(d diagram) bool {
	for i, node := range d.nodes {
		if node.Low == node.High || slices.Contains(d.nodes[:i], node) {
			return false
		}
	}
	return slices.Equal(finish(d, d.root, nil), numbers(d))
}

// finish appends to done the nodes that a traversal from one of them finishes.
func finish(d diagram, at int, done []int) []int {
	if at < 2 || slices.Contains(done, at) {
		return done
	}
	done = finish(d, d.nodes[at-2].Low, done)
	done = finish(d, d.nodes[at-2].High, done)
	return append(done, at)
}

func conjunction(f, g []bool) []bool {
	h := make([]bool, len(f))
	for s := range h {
		h[s] = f[s] && g[s]
	}
	return h
}

// isOf tells whether a diagram is the canonical one of a table.
func isOf(n int, d diagram, f []bool) bool {
	return wantErrno(n, d) == api.OK && canonical(d) && slices.Equal(wantTable(n, d), f)
}

// spread is the table of which the bits of a word are the values.
func spread(n int, word int) []bool {
	f := make([]bool, 1<<n)
	for s := range f {
		f[s] = word>>s&1 == 1
	}
	return f
}

// TestAllTables goes through all tables of all numbers of variables.
func TestAllTables(t *testing.T) {
	// A level has no more nodes than the levels above it lead to, and than there are functions that begin with its
	// variable: 2 of the last one, 12 of the last two.
	mostNodes := []int{0, 1, 1 + 2, 1 + 2 + 2, 1 + 2 + 4 + 2}
	for n := 0; n <= api.MaxVar; n++ {
		most := 0
		for word := range 1 << (1 << n) {
			f := spread(n, word)
			got, e := build(n, f)
			if e != api.OK || !isOf(n, got, f) {
				t.Fatalf("%d variables, %v: %v %d", n, f, got, e)
			}
			if g, e := Read(n, got.nodes, got.root); e != api.OK || !slices.Equal(g, f) {
				t.Fatalf("%d variables, %v is read as %v %d", n, f, g, e)
			}
			most = max(most, len(got.nodes))
		}
		if most != mostNodes[n] {
			t.Errorf("%d variables: up to %d nodes, want %d", n, most, mostNodes[n])
		}
	}
}

// TestAllConjunctions goes through all pairs of canonical diagrams of up to three variables.
func TestAllConjunctions(t *testing.T) {
	for n := range 4 {
		var all []diagram
		for word := range 1 << (1 << n) {
			d, _ := build(n, spread(n, word))
			all = append(all, d)
		}
		for a := range all {
			for b := range all {
				// The conjunction's word is that of the bits that both words have, and its diagram is the only one.
				if got, e := and(n, all[a], all[b]); e != api.OK || !same(got, all[a&b]) {
					t.Fatalf("%d variables, %v and %v: %v %d, want %v", n, all[a], all[b], got, e, all[a&b])
				}
			}
		}
	}
}

// checkDiagram compares Read, and And with true, with what the document says of any diagram, and returns the error.
func checkDiagram(t *testing.T, n int, d diagram) api.Errno {
	want := wantErrno(n, d)
	f, e := Read(n, d.nodes, d.root)
	got, e2 := and(n, d, diagram{nil, 1})
	if e != want || e2 != want {
		t.Fatalf("%d variables, %v: errors %d and %d, want %d", n, d, e, e2, want)
	}
	if want != api.OK {
		if len(f) != 0 || !same(got, diagram{}) {
			t.Fatalf("%d variables, %v: %v and %v with an error", n, d, f, got)
		}
		return want
	}
	if !slices.Equal(f, wantTable(n, d)) || !isOf(n, got, f) {
		t.Fatalf("%d variables, %v: %v and %v, want %v", n, d, f, got, wantTable(n, d))
	}
	return want
}

// TestSmallDiagrams goes through all lists of up to two nodes, valid or not, with all roots.
func TestSmallDiagrams(t *testing.T) {
	seen := map[api.Errno]int{}
	for n := range 3 {
		var nodes []api.Branch
		for variable := -1; variable <= n; variable++ {
			for low := -1; low <= 4; low++ {
				for high := -1; high <= 4; high++ {
					nodes = append(nodes, api.Branch{Var: variable, Low: low, High: high})
				}
			}
		}
		for root := -1; root <= 4; root++ {
			seen[checkDiagram(t, n, diagram{nil, root})]++
			for _, a := range nodes {
				seen[checkDiagram(t, n, diagram{[]api.Branch{a}, root})]++
				for _, b := range nodes {
					seen[checkDiagram(t, n, diagram{[]api.Branch{a, b}, root})]++
				}
			}
		}
	}
	for _, e := range []api.Errno{api.OK, api.ErrRange, api.ErrForm, api.ErrArg} {
		if seen[e] < 100 {
			t.Errorf("error %d: %d times", e, seen[e])
		}
	}
}

// sequence is a fixed sequence of numbers.
type sequence uint32

func (q *sequence) below(bound int) int {
	*q = *q*1664525 + 1013904223
	return int(*q>>8) % bound
}

// valid returns a diagram of up to MaxNodes nodes that is seldom canonical.
func (q *sequence) valid(n int) diagram {
	var d diagram
	for range q.below(api.MaxNodes + 1) {
		if n == 0 {
			break
		}
		node := api.Branch{Var: q.below(n)}
		for _, to := range []*int{&node.Low, &node.High} {
			*to = q.below(2)
			if number := q.below(len(d.nodes) + 2); number >= 2 && d.nodes[number-2].Var > node.Var {
				*to = number
			}
		}
		d.nodes = append(d.nodes, node)
	}
	d.root = len(d.nodes) + 1 - q.below(len(d.nodes)+2)/3
	return d
}

// spoil changes one number of a diagram, which may make it invalid.
func (q *sequence) spoil(n int, d diagram) diagram {
	d.nodes = slices.Clone(d.nodes)
	value := q.below(api.MaxNodes+6) - 2
	if len(d.nodes) == 0 || q.below(4) == 0 {
		d.root = value
		return d
	}
	node := &d.nodes[q.below(len(d.nodes))]
	switch q.below(3) {
	case 0:
		node.Var = q.below(n+3) - 1
	case 1:
		node.Low = value
	default:
		node.High = value
	}
	return d
}

// TestManyDiagrams reads and joins valid diagrams of all sizes, and diagrams that were valid before one change or two.
func TestManyDiagrams(t *testing.T) {
	q := sequence(31415926)
	seen := map[api.Errno]int{}
	for round := range 30000 {
		n := round % (api.MaxVar + 1)
		a, b := q.valid(n), q.valid(n)
		if e := checkDiagram(t, n, a); e != api.OK {
			t.Fatalf("%d variables, %v: error %d", n, a, e)
		}
		got, e := and(n, a, b)
		if e != api.OK || !isOf(n, got, conjunction(wantTable(n, a), wantTable(n, b))) {
			t.Fatalf("%d variables, %v and %v: %v %d", n, a, b, got, e)
		}
		c, d := q.spoil(n, a), q.spoil(n, b)
		seen[checkDiagram(t, n, c)]++
		checkDiagram(t, n, q.spoil(n, c))
		want := wantErrno(n, c)
		if want == api.OK {
			want = wantErrno(n, d)
		}
		if _, e := and(n, c, d); e != want {
			t.Fatalf("%d variables, %v and %v: error %d, want %d", n, c, d, e, want)
		}
	}
	for _, e := range []api.Errno{api.OK, api.ErrRange, api.ErrForm, api.ErrArg} {
		if seen[e] < 100 {
			t.Errorf("error %d: %d times", e, seen[e])
		}
	}
}
