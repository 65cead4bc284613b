package grant

import (
	"math/bits"
	"slices"
	"testing"

	"syllogist/api"
)

// The functions of this file follow the document's words alone, and share no code with the program. They keep no
// state: what a vertex has is told from the edges and from the operations before that were executed.

// vertices returns how many vertices there are after operations.
func vertices(n int, done []api.Deed) int {
	for _, d := range done {
		if d.Kind == api.GMake {
			n++
		}
	}
	return n
}

// holds tells whether a has one right over b after operations: the last of them that is about it decides.
func holds(n int, edges []api.Edge, done []api.Deed, a, b int, right uint32) bool {
	for i := len(done) - 1; i >= 0; i-- {
		d := done[i]
		about := d.Label.Parts&right == right
		switch {
		case about && d.Kind == api.GDrop && d.By == a && d.To == b:
			return false
		case about && d.Kind == api.GTake && d.By == a && d.Label.Level == b:
			return true
		case about && d.Kind == api.GGrant && d.To == a && d.Label.Level == b:
			return true
		case d.Kind == api.GMake && d.By == a && b == vertices(n, done[:i]):
			return right == 1 || right == 2
		}
	}
	return slices.ContainsFunc(edges, func(edge api.Edge) bool {
		return edge.From == a && edge.To == b && edge.Rights&right != 0
	})
}

// holdsAll tells whether a has all rights of a word over b after operations.
func holdsAll(n int, edges []api.Edge, done []api.Deed, a, b int, rights uint32) bool {
	for bit := range 32 {
		if right := uint32(1) << bit; rights&right != 0 && !holds(n, edges, done, a, b, right) {
			return false
		}
	}
	return true
}

func wantCode(n int, edges []api.Edge, done []api.Deed, d api.Deed) api.Errno {
	if d.Kind != api.GTake && d.Kind != api.GGrant && d.Kind != api.GMake && d.Kind != api.GDrop {
		return api.ErrKind
	}
	size, target, rights := vertices(n, done), d.Label.Level, d.Label.Parts
	missing := func(v int) bool { return v < 0 || v >= size }
	if missing(d.By) {
		return api.ErrArg
	}
	if d.Kind != api.GMake && (missing(d.To) || d.By == d.To) {
		return api.ErrArg
	}
	switch d.Kind {
	case api.GTake:
		if missing(target) || d.By == target {
			return api.ErrArg
		}
		if !holds(n, edges, done, d.By, d.To, 1) || !holdsAll(n, edges, done, d.To, target, rights) {
			return api.ErrDeny
		}
	case api.GGrant:
		if missing(target) || d.To == target {
			return api.ErrArg
		}
		if !holds(n, edges, done, d.By, d.To, 2) || !holdsAll(n, edges, done, d.By, target, rights) {
			return api.ErrDeny
		}
	case api.GMake:
		if size >= 8+6 {
			return api.ErrLarge
		}
	}
	return api.OK
}

func wantError(n int, edges []api.Edge) api.Errno {
	if n < 1 || n > 6 || len(edges) > 20 {
		return api.ErrLarge
	}
	for _, edge := range edges {
		if edge.From < 0 || edge.To < 0 || edge.From > n-1 || edge.To > n-1 || edge.From == edge.To {
			return api.ErrArg
		}
	}
	return api.OK
}

// search returns what Play should return, if no other rights than those of the word used occur.
func search(n int, edges []api.Edge, script []api.Deed, used uint32) (api.Graph, api.Errno) {
	if len(script) > 30 {
		return api.Graph{}, api.ErrLarge
	}
	if e := wantError(n, edges); e != api.OK {
		return api.Graph{}, e
	}
	var want api.Graph
	var done []api.Deed
	for _, d := range script {
		code := wantCode(n, edges, done, d)
		if code == api.OK {
			done = append(done, d)
		}
		want.Codes = append(want.Codes, code)
	}
	want.N = vertices(n, done)
	for a := range want.N {
		for b := range want.N {
			if rights := wantRights(n, edges, done, a, b, used); rights != 0 {
				want.Edges = append(want.Edges, api.Edge{From: a, To: b, Rights: rights})
			}
		}
	}
	return want, api.OK
}

// wantRights returns which rights of a word a has over b after operations.
func wantRights(n int, edges []api.Edge, done []api.Deed, a, b int, used uint32) uint32 {
	var rights uint32
	for left := used; left != 0; left &= left - 1 {
		if right := left & -left; holds(n, edges, done, a, b, right) {
			rights += right
		}
	}
	return rights
}

func same(a, b api.Graph) bool {
	return a.N == b.N && slices.Equal(a.Codes, b.Codes) && slices.Equal(a.Edges, b.Edges)
}

func none(g api.Graph) bool {
	return g.N == 0 && len(g.Codes)+len(g.Edges) == 0
}

// usedRights returns all rights that occur in edges and in operations, and those of new vertices.
func usedRights(edges []api.Edge, script []api.Deed) uint32 {
	used := uint32(3)
	for _, edge := range edges {
		used |= edge.Rights
	}
	for _, d := range script {
		used |= d.Label.Parts
	}
	return used
}

func compare(t *testing.T, n int, edges []api.Edge, script []api.Deed) (api.Graph, api.Errno) {
	t.Helper()
	got, e := Play(n, edges, script)
	if want, err := search(n, edges, script, usedRights(edges, script)); !same(got, want) || e != err {
		t.Fatalf("%d vertices, %v, %v: %v %d, want %v %d", n, edges, script, got, e, want, err)
	}
	return got, e
}

// everything returns what each vertex has over each other one if all that can be taken or granted is, after each of the
// first n vertices has made some new ones.
func everything(n int, edges []api.Edge, made int) [][]uint32 {
	size := n + n*made
	has := make([][]uint32, size)
	for a := range has {
		has[a] = make([]uint32, size)
	}
	for _, edge := range edges {
		has[edge.From][edge.To] |= edge.Rights
	}
	for v := n; v < size; v++ {
		has[v%n][v] = 3
	}
	for changed := true; changed; {
		changed = false
		for a := range has {
			for b := range has {
				for target := range has {
					if has[a][b]&1 != 0 && a != target && has[b][target]&^has[a][target] != 0 {
						has[a][target] |= has[b][target]
						changed = true
					}
					if has[a][b]&2 != 0 && b != target && has[a][target]&^has[b][target] != 0 {
						has[b][target] |= has[a][target]
						changed = true
					}
				}
			}
		}
	}
	return has
}

// compareCan calls Can and Way for x and y, and holds them against everything that x can have.
func compareCan(t *testing.T, n int, edges []api.Edge, x, y int, right uint32, can bool) []api.Deed {
	t.Helper()
	is, e := Can(n, edges, x, y, right)
	if is != can || e != api.OK {
		t.Fatalf("%d vertices, %v, %d over %d, right %d: %v %d, want %v", n, edges, x, y, right, is, e, can)
	}
	script, e := Way(n, edges, x, y, right)
	if can && e != api.OK || !can && (len(script) != 0 || e != api.ErrNone) {
		t.Fatalf("%d vertices, %v, %d over %d, right %d: way %v %d, but can is %v", n, edges, x, y, right, script, e, can)
	}
	if can {
		follow(t, n, edges, script, x, y, right)
	}
	return script
}

// follow executes a script that Way has returned, and looks at what comes of it.
func follow(t *testing.T, n int, edges []api.Edge, script []api.Deed, x, y int, right uint32) {
	t.Helper()
	if holds(n, edges, nil, x, y, right) != (len(script) == 0) {
		t.Fatalf("%d vertices, %v, %d over %d, right %d: way %v", n, edges, x, y, right, script)
	}
	for i, d := range script {
		if code := wantCode(n, edges, script[:i], d); code != api.OK || d.Kind == api.GDrop {
			t.Fatalf("%d vertices, %v, %d over %d, right %d: way %v: operation %d has code %d", n, edges, x, y, right, script, i, code)
		}
	}
	if !holds(n, edges, script, x, y, right) {
		t.Fatalf("%d vertices, %v, %d over %d, right %d: way %v leads elsewhere", n, edges, x, y, right, script)
	}
}

// pairsOf returns all pairs of two of n vertices.
func pairsOf(n int) []api.Edge {
	var pairs []api.Edge
	for a := range n {
		for b := range n {
			if a != b {
				pairs = append(pairs, api.Edge{From: a, To: b})
			}
		}
	}
	return pairs
}

// digits calls visit for all lists of that length of numbers below base.
func digits(length, base int, visit func(list []int)) {
	list := make([]int, length)
	for {
		visit(list)
		place := 0
		for place < length && list[place] == base-1 {
			list[place] = 0
			place++
		}
		if place == length {
			return
		}
		list[place]++
	}
}

// TestAllGraphsOfThree has all rights to take and to grant among up to three vertices, and one further right of 0 over 1.
func TestAllGraphsOfThree(t *testing.T) {
	counts := map[bool]int{}
	for n := 2; n <= 3; n++ {
		pairs := pairsOf(n)
		digits(len(pairs), 4, func(list []int) {
			edges := []api.Edge{{From: 0, To: 1, Rights: 4}}
			for i, rights := range list {
				if rights != 0 {
					edges = append(edges, api.Edge{From: pairs[i].From, To: pairs[i].To, Rights: uint32(rights)})
				}
			}
			has := everything(n, edges, 1)
			twice := everything(n, edges, 2)
			for a := range n {
				if !slices.Equal(has[a][:n], twice[a][:n]) {
					t.Fatalf("%v: %v, and with more new vertices %v", edges, has, twice)
				}
			}
			for _, p := range pairs {
				for _, right := range []uint32{1, 2, 4, 8} {
					can := has[p.From][p.To]&right != 0
					counts[can]++
					compareCan(t, n, edges, p.From, p.To, right, can)
				}
			}
		})
	}
	if counts[true] < 20000 || counts[false] < 20000 {
		t.Errorf("too few of one kind: %v", counts)
	}
}

// TestAllGraphsOfFour has all choices of one link or none between each two of four vertices, and a further right of 0 over 1.
func TestAllGraphsOfFour(t *testing.T) {
	counts := map[bool]int{}
	digits(6, 5, func(list []int) {
		edges := []api.Edge{{From: 0, To: 1, Rights: 4}}
		for i, p := range [][2]int{{0, 1}, {0, 2}, {0, 3}, {1, 2}, {1, 3}, {2, 3}} {
			edges = append(edges, link(p[0], p[1], list[i])...)
		}
		has := everything(4, edges, 1)
		for x := range 4 {
			if x != 1 {
				can := has[x][1]&4 != 0
				counts[can]++
				compareCan(t, 4, edges, x, 1, 4, can)
			}
		}
	})
	if counts[true] < 500 || counts[false] < 500 {
		t.Errorf("too few of one kind: %v", counts)
	}
}

// link returns the edge between a and b of one of four kinds, or none.
func link(a, b, kind int) []api.Edge {
	switch kind {
	case 0:
		return []api.Edge{{From: a, To: b, Rights: 1}}
	case 1:
		return []api.Edge{{From: b, To: a, Rights: 1}}
	case 2:
		return []api.Edge{{From: a, To: b, Rights: 2}}
	case 3:
		return []api.Edge{{From: b, To: a, Rights: 2}}
	}
	return nil
}

// TestAllPathsOfSix has all kinds of links on paths of up to six vertices, of which the last one has a right over each other one in turn.
func TestAllPathsOfSix(t *testing.T) {
	longest := 0
	for n := 3; n <= 6; n++ {
		digits(n-1, 4, func(list []int) {
			for y := 1; y < n-1; y++ {
				edges := []api.Edge{{From: n - 1, To: y, Rights: 1 << 31}}
				for v, kind := range list {
					edges = append(edges, link(v, v+1, kind)...)
				}
				for x := range n {
					if x != y {
						longest = max(longest, len(compareCan(t, n, edges, x, y, 1<<31, true)))
					}
				}
			}
		})
	}
	if longest > api.MaxDeeds {
		t.Errorf("a way of %d operations, which Play does not execute", longest)
	}
}

// TestWaysArePlayed holds Way against Play.
func TestWaysArePlayed(t *testing.T) {
	digits(5, 4, func(list []int) {
		edges := []api.Edge{{From: 5, To: 2, Rights: 64}}
		for v, kind := range list {
			edges = append(edges, link(v, v+1, kind)...)
		}
		script, _ := Way(6, edges, 0, 2, 64)
		got, e := Play(6, edges, script)
		if e != api.OK || slices.ContainsFunc(got.Codes, func(code api.Errno) bool { return code != api.OK }) {
			t.Fatalf("%v, %v: %v %d", edges, script, got, e)
		}
		if !slices.ContainsFunc(got.Edges, func(edge api.Edge) bool { return edge.From == 0 && edge.To == 2 && edge.Rights&64 != 0 }) {
			t.Fatalf("%v, %v: %v", edges, script, got.Edges)
		}
	})
}

// sequence gives numbers that are always the same.
type sequence struct{ state uint32 }

func (s *sequence) below(limit int) int {
	s.state = s.state*1664525 + 1013904223
	return int(s.state>>8) % limit
}

// edges returns edges of n vertices, of which a few may be invalid if that is asked for.
func (s *sequence) edges(n, count, invalid int) []api.Edge {
	words := []uint32{0, 1, 1, 2, 2, 3, 4, 5, 1 << 31, 6}
	var edges []api.Edge
	for range count {
		edge := api.Edge{From: s.below(n), To: s.below(n), Rights: words[s.below(len(words))]}
		if edge.From == edge.To && n > 1 && s.below(100) >= invalid {
			edge.To = (edge.From + 1 + s.below(n-1)) % n
		}
		if s.below(100) < invalid {
			edge.To = s.below(n+4) - 2
		}
		edges = append(edges, edge)
	}
	return edges
}

// TestGraphsOfASequence has graphs of all sizes, with the further rights 4 and 1 << 31.
func TestGraphsOfASequence(t *testing.T) {
	s := &sequence{state: 16}
	counts, made, most := map[bool]int{}, 0, 0
	for range 6000 {
		n := 2 + s.below(5)
		edges := s.edges(n, s.below(2*n), 0)
		has := everything(n, edges, 1)
		x, y := s.below(n), s.below(n)
		if x == y {
			continue
		}
		for _, right := range []uint32{1, 2, 4, 8, 1 << 31} {
			can := has[x][y]&right != 0
			counts[can]++
			script := compareCan(t, n, edges, x, y, right, can)
			made = max(made, vertices(0, script))
			most = max(most, len(script))
		}
	}
	if counts[true] < 3000 || counts[false] < 3000 || made < 5 || most < 12 {
		t.Errorf("too little of one kind: %v, at most %d new vertices and %d operations", counts, made, most)
	}
}

// TestErrorsOfASequence holds the errors of all three functions against the document's words.
func TestErrorsOfASequence(t *testing.T) {
	s := &sequence{state: 1616}
	counts := map[api.Errno]int{}
	for range 30000 {
		n := s.below(9) - 1
		edges := s.edges(max(n, 1), s.below(24), 5)
		x, y := s.below(n+4)-1, s.below(n+4)-1
		right := []uint32{0, 1, 2, 3, 4, 5, 1 << 31, 1<<31 + 1, 1<<32 - 1}[s.below(9)]
		want := wantError(n, edges)
		if got, e := Play(n, edges, nil); e != want || none(got) != (want != api.OK) {
			t.Fatalf("%d vertices, %v: %v %d, want %d", n, edges, got, e, want)
		}
		if want == api.OK && (x < 0 || y < 0 || x >= n || y >= n || x == y) {
			want = api.ErrArg
		}
		if want == api.OK && bits.OnesCount32(right) != 1 {
			want = api.ErrRange
		}
		counts[want]++
		is, e := Can(n, edges, x, y, right)
		if e != want || is && want != api.OK {
			t.Fatalf("%d vertices, %v, %d over %d, right %d: %v %d, want %d", n, edges, x, y, right, is, e, want)
		}
		if want == api.OK && !is {
			want = api.ErrNone
		}
		if script, e := Way(n, edges, x, y, right); e != want || want != api.OK && len(script) != 0 {
			t.Fatalf("%d vertices, %v, %d over %d, right %d: way %v %d, want %d", n, edges, x, y, right, script, e, want)
		}
	}
	for _, e := range []api.Errno{api.OK, api.ErrLarge, api.ErrArg, api.ErrRange} {
		if counts[e] < 300 {
			t.Errorf("error %d only %d times", e, counts[e])
		}
	}
}

// TestAllOperations has each operation on two and three vertices, one of which has just been made, in graphs of all kinds.
func TestAllOperations(t *testing.T) {
	s := &sequence{state: 160}
	for n := 1; n <= 2; n++ {
		for kind := range 6 {
			for by := -1; by <= n+1; by++ {
				for to := -1; to <= n+1; to++ {
					for target := -1; target <= n+1; target++ {
						for _, rights := range []uint32{0, 1, 2, 4, 5} {
							d := api.Deed{Kind: kind, By: by, To: to, Label: api.Label{Level: target, Parts: rights}}
							made := api.Deed{Kind: api.GMake, By: s.below(n)}
							compare(t, n, nil, []api.Deed{made, d})
							if n > 1 {
								compare(t, n, s.edges(n, 1+s.below(3), 0), []api.Deed{made, d})
							}
							compare(t, n+1, s.edges(n+1, s.below(6), 0), []api.Deed{d, d})
						}
					}
				}
			}
		}
	}
}

// deed returns an operation among size vertices, or among a few more.
func (s *sequence) deed(size int) api.Deed {
	if s.below(20) == 0 {
		size += 2
	}
	number := func() int {
		if s.below(40) == 0 {
			return -1
		}
		return s.below(size)
	}
	words := []uint32{0, 1, 1, 2, 2, 3, 4, 4, 7, 1 << 31}
	d := api.Deed{Kind: 1 + s.below(4), By: number(), To: number(), Val: s.below(3) - 1}
	if d.Kind == api.GMake && s.below(4) > 0 {
		d.Kind = api.GTake + s.below(2)
	}
	if s.below(40) == 0 {
		d.Kind = 5 * s.below(2)
	}
	d.Label = api.Label{Level: number(), Parts: words[s.below(len(words))]}
	return d
}

// executable returns an operation, most often one that is executed after others.
func (s *sequence) executable(n int, edges []api.Edge, done []api.Deed) api.Deed {
	d := s.deed(vertices(n, done))
	for range 12 {
		if wantCode(n, edges, done, d) == api.OK || s.below(12) == 0 {
			break
		}
		d = s.deed(vertices(n, done))
	}
	return d
}

// TestScriptsOfASequence has long scripts, of which some operations are not executed.
func TestScriptsOfASequence(t *testing.T) {
	s := &sequence{state: 61}
	codes, kinds, greatest := map[api.Errno]int{}, map[int]int{}, 0
	for range 20000 {
		n := 1 + s.below(6)
		var edges []api.Edge
		if n > 1 {
			edges = s.edges(n, s.below(13), 0)
		}
		var script, done []api.Deed
		for range s.below(31) {
			d := s.executable(n, edges, done)
			script = append(script, d)
			if wantCode(n, edges, done, d) == api.OK {
				done = append(done, d)
				kinds[d.Kind]++
			}
		}
		got, _ := compare(t, n, edges, script)
		for _, code := range got.Codes {
			codes[code]++
		}
		greatest = max(greatest, got.N)
	}
	for _, code := range []api.Errno{api.OK, api.ErrKind, api.ErrArg, api.ErrDeny} {
		if codes[code] < 500 {
			t.Errorf("code %d only %d times", code, codes[code])
		}
	}
	for _, kind := range []int{api.GTake, api.GGrant, api.GMake, api.GDrop} {
		if kinds[kind] < 2000 {
			t.Errorf("kind %d was executed only %d times", kind, kinds[kind])
		}
	}
	if greatest < 13 {
		t.Errorf("never more than %d vertices", greatest)
	}
}
