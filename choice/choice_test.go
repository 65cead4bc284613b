package choice

import (
	"math"
	"slices"
	"testing"

	"syllogist/api"
)

// diagram is what Build and And return, and what Read and And are passed.
type diagram struct {
	nodes []api.Branch
	root  int
}

// rows are nodes as they are written down: a variable, Low and High.
type rows [][3]int

func (l rows) root(root int) diagram {
	d := diagram{root: root}
	for _, row := range l {
		d.nodes = append(d.nodes, api.Branch{Var: row[0], Low: row[1], High: row[2]})
	}
	return d
}

func same(a, b diagram) bool { return a.root == b.root && slices.Equal(a.nodes, b.nodes) }

func build(n int, f []bool) (diagram, api.Errno) {
	nodes, root, e := Build(n, f)
	return diagram{nodes, root}, e
}

func and(n int, a, b diagram) (diagram, api.Errno) {
	nodes, root, e := And(n, a.nodes, a.root, b.nodes, b.root)
	return diagram{nodes, root}, e
}

// table is the list of the values that are written as zeros and ones, with blanks between them for the eye.
func table(text string) []bool {
	f := []bool{}
	for _, r := range text {
		if r != ' ' {
			f = append(f, r == '1')
		}
	}
	return f
}

// copies is a diagram of many nodes that all stand for variable 0; the last one is its root.
func copies(count int) diagram {
	return diagram{slices.Repeat([]api.Branch{{Var: 0, Low: 0, High: 1}}, count), count + 1}
}

func TestErrorsOfRead(t *testing.T) {
	last := copies(1)
	cases := []struct {
		name string
		n    int
		d    diagram
		want api.Errno
	}{
		{"fewer than no variables", -1, diagram{nil, 0}, api.ErrLarge},
		{"least number of variables", math.MinInt, diagram{nil, 0}, api.ErrLarge},
		{"too many variables", api.MaxVar + 1, last, api.ErrLarge},
		{"as many variables as an int has bits", 64, last, api.ErrLarge},
		{"greatest number of variables", math.MaxInt, last, api.ErrLarge},
		{"too many nodes", 1, copies(api.MaxNodes + 1), api.ErrLarge},
		{"far too many nodes", 1, copies(1000), api.ErrLarge},
		{"too many variables before a wrong node", api.MaxVar + 1, diagram{[]api.Branch{{Var: -1}}, 2}, api.ErrLarge},
		{"too many variables before a wrong root", api.MaxVar + 1, diagram{nil, 9}, api.ErrLarge},
		{"too many nodes before wrong nodes", 0, copies(api.MaxNodes + 1), api.ErrLarge},
		{"a node without variables", 0, last, api.ErrRange},
		{"a variable too great", 1, diagram{[]api.Branch{{Var: 1, High: 1}}, 2}, api.ErrRange},
		{"a variable below 0", 1, diagram{[]api.Branch{{Var: -1, High: 1}}, 2}, api.ErrRange},
		{"greatest variable", 4, diagram{[]api.Branch{{Var: math.MaxInt, High: 1}}, 2}, api.ErrRange},
		{"least variable", 4, diagram{[]api.Branch{{Var: math.MinInt, High: 1}}, 2}, api.ErrRange},
		{"a wrong variable that is not reached", 1, diagram{[]api.Branch{{Var: 1, High: 1}}, 0}, api.ErrRange},
		{"a wrong variable before a wrong Low", 1, diagram{[]api.Branch{{Var: 1, Low: -1}}, 2}, api.ErrRange},
		{"a wrong variable before a wrong root", 1, diagram{[]api.Branch{{Var: 1, High: 1}}, 3}, api.ErrRange},
		{"Low below 0", 1, diagram{[]api.Branch{{Low: -1, High: 1}}, 2}, api.ErrForm},
		{"High below 0", 1, diagram{[]api.Branch{{Low: 1, High: -1}}, 2}, api.ErrForm},
		{"least Low", 1, diagram{[]api.Branch{{Low: math.MinInt, High: 1}}, 2}, api.ErrForm},
		{"greatest High", 1, diagram{[]api.Branch{{Low: 1, High: math.MaxInt}}, 2}, api.ErrForm},
		{"Low is the node", 1, diagram{[]api.Branch{{Low: 2, High: 1}}, 2}, api.ErrForm},
		{"High is the node", 1, diagram{[]api.Branch{{Low: 1, High: 2}}, 2}, api.ErrForm},
		{"Low follows", 2, diagram{[]api.Branch{{Var: 0, Low: 3}, {Var: 1, High: 1}}, 2}, api.ErrForm},
		{"High follows", 2, diagram{[]api.Branch{{Var: 0, High: 3}, {Var: 1, High: 1}}, 2}, api.ErrForm},
		{"Low has the same variable", 2, diagram{[]api.Branch{{Var: 1, High: 1}, {Var: 1, Low: 2}}, 3}, api.ErrForm},
		{"High has the same variable", 2, diagram{[]api.Branch{{Var: 1, High: 1}, {Var: 1, High: 2}}, 3}, api.ErrForm},
		{"Low has a lesser variable", 2, diagram{[]api.Branch{{Var: 0, High: 1}, {Var: 1, Low: 2}}, 3}, api.ErrForm},
		{"High has a lesser variable", 2, diagram{[]api.Branch{{Var: 0, High: 1}, {Var: 1, High: 2}}, 3}, api.ErrForm},
		{"a wrong Low that is not reached", 1, diagram{[]api.Branch{{Low: 2}}, 1}, api.ErrForm},
		{"a wrong Low before a wrong root", 1, diagram{[]api.Branch{{Low: 2}}, -1}, api.ErrForm},
		{"a wrong Low before a wrong variable", 1, diagram{[]api.Branch{{Low: 2}, {Var: 1}}, 2}, api.ErrForm},
		{"a wrong variable before a wrong Low of the next", 1, diagram{[]api.Branch{{Var: 1}, {Low: 3}}, 2}, api.ErrRange},
		{"a root below 0", 1, diagram{last.nodes, -1}, api.ErrArg},
		{"a root beyond the nodes", 1, diagram{last.nodes, 3}, api.ErrArg},
		{"a root without nodes", 1, diagram{nil, 2}, api.ErrArg},
		{"least root", 1, diagram{last.nodes, math.MinInt}, api.ErrArg},
		{"greatest root", 1, diagram{last.nodes, math.MaxInt}, api.ErrArg},
		{"a root beyond the most nodes", 1, diagram{copies(api.MaxNodes).nodes, api.MaxNodes + 2}, api.ErrArg},
	}
	for _, c := range cases {
		if f, e := Read(c.n, c.d.nodes, c.d.root); len(f) != 0 || e != c.want {
			t.Errorf("%s: Read %v %d, want error %d", c.name, f, e, c.want)
		}
		for _, pair := range [][2]diagram{{c.d, {}}, {{}, c.d}, {c.d, c.d}} {
			if got, e := and(c.n, pair[0], pair[1]); !same(got, diagram{}) || e != c.want {
				t.Errorf("%s: And %v: %v %d, want error %d", c.name, pair, got, e, c.want)
			}
		}
	}
}

// TestErrorsOfAnd has two diagrams with an error each.
func TestErrorsOfAnd(t *testing.T) {
	fine, many := copies(1), copies(api.MaxNodes+1)
	wrongVariable := diagram{[]api.Branch{{Var: 1, High: 1}}, 2}
	wrongForm := diagram{[]api.Branch{{Var: 0, High: 2}}, 2}
	wrongRoot := diagram{nil, 2}
	cases := []struct {
		name string
		n    int
		a, b diagram
		want api.Errno
	}{
		{"too many variables before all others", api.MaxVar + 1, wrongForm, wrongRoot, api.ErrLarge},
		{"too many nodes of the second before a wrong variable", 1, wrongVariable, many, api.ErrLarge},
		{"too many nodes of the second before a wrong form", 1, wrongForm, many, api.ErrLarge},
		{"too many nodes of the second before a wrong root", 1, wrongRoot, many, api.ErrLarge},
		{"too many nodes of the first", 1, many, wrongForm, api.ErrLarge},
		{"too many nodes of both", 1, many, many, api.ErrLarge},
		{"a wrong root of the first before a wrong variable of the second", 1, wrongRoot, wrongVariable, api.ErrArg},
		{"a wrong root of the first before a wrong form of the second", 1, wrongRoot, wrongForm, api.ErrArg},
		{"a wrong form of the first before a wrong variable of the second", 1, wrongForm, wrongVariable, api.ErrForm},
		{"a wrong variable of the first before a wrong form of the second", 1, wrongVariable, wrongForm, api.ErrRange},
		{"a wrong form of the second, though the first is false", 1, diagram{}, wrongForm, api.ErrForm},
		{"a wrong root of the second", 1, fine, wrongRoot, api.ErrArg},
	}
	for _, c := range cases {
		if got, e := and(c.n, c.a, c.b); !same(got, diagram{}) || e != c.want {
			t.Errorf("%s: %v %d, want error %d", c.name, got, e, c.want)
		}
	}
}

func TestErrorsOfBuild(t *testing.T) {
	for _, n := range []int{math.MinInt, -1, api.MaxVar + 1, 32, 64, math.MaxInt} {
		for _, length := range []int{0, 1, 16, 32} {
			if got, e := build(n, make([]bool, length)); !same(got, diagram{}) || e != api.ErrLarge {
				t.Errorf("%d variables, %d elements: %v %d", n, length, got, e)
			}
		}
	}
	for n := 0; n <= api.MaxVar; n++ {
		for length := range 40 {
			got, e := build(n, slices.Repeat([]bool{true}, length))
			if length != 1<<n && (!same(got, diagram{}) || e != api.ErrForm) {
				t.Errorf("%d variables, %d elements: %v %d", n, length, got, e)
			}
			if length == 1<<n && (!same(got, diagram{nil, 1}) || e != api.OK) {
				t.Errorf("%d variables, all true: %v %d", n, got, e)
			}
		}
	}
}

func TestCases(t *testing.T) {
	cases := []struct {
		name string
		n    int
		f    string
		want diagram
	}{
		{"the document's example", 1, "01", rows{{0, 0, 1}}.root(2)},
		{"the negation", 1, "10", rows{{0, 1, 0}}.root(2)},
		{"no variables, false", 0, "0", diagram{nil, 0}},
		{"no variables, true", 0, "1", diagram{nil, 1}},
		{"always false", 4, "0000 0000 0000 0000", diagram{nil, 0}},
		{"always true", 4, "1111 1111 1111 1111", diagram{nil, 1}},
		{"the first of two", 2, "0101", rows{{0, 0, 1}}.root(2)},
		{"the second of two", 2, "0011", rows{{1, 0, 1}}.root(2)},
		{"both", 2, "0001", rows{{1, 0, 1}, {0, 0, 2}}.root(3)},
		{"one or both", 2, "0111", rows{{1, 0, 1}, {0, 2, 1}}.root(3)},
		{"one of the two: Low before High", 2, "0110", rows{{1, 0, 1}, {1, 1, 0}, {0, 2, 3}}.root(4)},
		{"both or none: Low before High", 2, "1001", rows{{1, 1, 0}, {1, 0, 1}, {0, 2, 3}}.root(4)},
		{"two of three, with a node of two that lead to it", 3, "0001 0111",
			rows{{2, 0, 1}, {1, 0, 2}, {1, 2, 1}, {0, 3, 4}}.root(5)},
		{"one of three, or all", 3, "0110 1001",
			rows{{2, 0, 1}, {2, 1, 0}, {1, 2, 3}, {1, 3, 2}, {0, 4, 5}}.root(6)},
		{"the first decides between the second and the third", 3, "0010 0111",
			rows{{1, 0, 1}, {2, 0, 1}, {0, 2, 3}}.root(4)},
		{"the first or the fourth, with two variables between them", 4, "0101 0101 1111 1111",
			rows{{3, 0, 1}, {0, 2, 1}}.root(3)},
	}
	for _, c := range cases {
		got, e := build(c.n, table(c.f))
		if !same(got, c.want) || e != api.OK {
			t.Errorf("%s: %v %d, want %v", c.name, got, e, c.want)
		}
		if f, e := Read(c.n, c.want.nodes, c.want.root); !slices.Equal(f, table(c.f)) || e != api.OK {
			t.Errorf("%s: read as %v %d, want %s", c.name, f, e, c.f)
		}
	}
}

// TestReadOthers has diagrams that are not canonical.
func TestReadOthers(t *testing.T) {
	cases := []struct {
		name string
		n    int
		d    diagram
		f    string
	}{
		{"equal Low and High", 1, rows{{0, 1, 1}}.root(2), "11"},
		{"equal Low and High that are a node", 2, rows{{1, 0, 1}, {0, 2, 2}}.root(3), "0011"},
		{"equal nodes", 2, rows{{1, 0, 1}, {1, 0, 1}, {0, 2, 3}}.root(4), "0011"},
		{"nodes that are not reached", 2, rows{{1, 0, 1}, {0, 2, 1}, {0, 0, 1}}.root(2), "0011"},
		{"all nodes are not reached", 1, rows{{0, 0, 1}}.root(1), "11"},
		{"High before Low", 2, rows{{1, 1, 0}, {1, 0, 1}, {0, 3, 2}}.root(4), "0110"},
		{"the most nodes", 1, copies(api.MaxNodes), "01"},
		{"the first of the most nodes", 1, diagram{copies(api.MaxNodes).nodes, 2}, "01"},
	}
	for _, c := range cases {
		if f, e := Read(c.n, c.d.nodes, c.d.root); !slices.Equal(f, table(c.f)) || e != api.OK {
			t.Errorf("%s: %v %d, want %s", c.name, f, e, c.f)
		}
		// A conjunction with true, with false or with itself is canonical, whatever it is made of.
		want, _ := build(c.n, table(c.f))
		for _, pair := range [][2]diagram{{c.d, {nil, 1}}, {{nil, 1}, c.d}, {c.d, c.d}} {
			if got, e := and(c.n, pair[0], pair[1]); !same(got, want) || e != api.OK {
				t.Errorf("%s: And %v: %v %d, want %v", c.name, pair, got, e, want)
			}
		}
		for _, pair := range [][2]diagram{{c.d, {}}, {{}, c.d}} {
			if got, e := and(c.n, pair[0], pair[1]); !same(got, diagram{}) || e != api.OK {
				t.Errorf("%s: And %v: %v %d, want false", c.name, pair, got, e)
			}
		}
	}
}

func TestAnd(t *testing.T) {
	first, second := rows{{0, 0, 1}}.root(2), rows{{1, 0, 1}}.root(2)
	one := rows{{1, 0, 1}, {0, 2, 1}}.root(3)
	notBoth := rows{{1, 1, 0}, {0, 1, 2}}.root(3)
	cases := []struct {
		name       string
		a, b, want diagram
	}{
		{"both", first, second, rows{{1, 0, 1}, {0, 0, 2}}.root(3)},
		{"both, the other way round", second, first, rows{{1, 0, 1}, {0, 0, 2}}.root(3)},
		{"one or both, and not both", one, notBoth, rows{{1, 0, 1}, {1, 1, 0}, {0, 2, 3}}.root(4)},
		{"one or both, and the first", one, first, first},
		{"a variable and its negation", first, rows{{0, 1, 0}}.root(2), diagram{}},
		{"true and true", diagram{nil, 1}, diagram{nil, 1}, diagram{nil, 1}},
		{"true and false", diagram{nil, 1}, diagram{nil, 0}, diagram{}},
		{"false and true", diagram{nil, 0}, diagram{nil, 1}, diagram{}},
		{"roots that are not the last nodes", diagram{one.nodes, 2}, diagram{notBoth.nodes, 2}, diagram{}},
	}
	for _, c := range cases {
		if got, e := and(2, c.a, c.b); !same(got, c.want) || e != api.OK {
			t.Errorf("%s: %v %d, want %v", c.name, got, e, c.want)
		}
	}
}

func TestArgumentsAreKept(t *testing.T) {
	// The diagrams lie side by side in one list: exactly one of two variables, and the second of them.
	backing := rows{{1, 0, 1}, {1, 1, 0}, {0, 2, 3}, {1, 0, 1}, {7, 7, 7}}.root(0).nodes
	nodes := slices.Clone(backing)
	a, b := diagram{backing[:3], 4}, diagram{backing[3:4], 2}
	// With what lies beyond the length, this would be a table of three variables.
	values := table("0110 1111")
	elements := slices.Clone(values)
	want := rows{{1, 0, 1}, {0, 2, 0}}.root(3)
	for range 2 {
		f, e := Read(2, a.nodes, a.root)
		if !slices.Equal(f, table("0110")) || e != api.OK {
			t.Errorf("Read: %v %d", f, e)
		}
		built, e := build(2, values[:4])
		if !same(built, diagram{nodes[:3], 4}) || e != api.OK {
			t.Errorf("Build: %v %d", built, e)
		}
		both, e := and(2, a, b)
		if !same(both, want) || e != api.OK {
			t.Errorf("And: %v %d, want %v", both, e, want)
		}
		itself, e := and(2, a, a)
		if !same(itself, diagram{nodes[:3], 4}) || e != api.OK {
			t.Errorf("And of a diagram with itself: %v %d", itself, e)
		}
		// Neither a later call nor the arguments must see what is written into an earlier result.
		for i := range f {
			f[i] = !f[i]
		}
		_ = append(f, true)
		for _, d := range []diagram{built, both, itself} {
			for i := range d.nodes {
				d.nodes[i] = api.Branch{Var: 9, Low: 9, High: 9}
			}
			_ = append(d.nodes, api.Branch{})
		}
	}
	if !slices.Equal(backing, nodes) || !slices.Equal(values, elements) {
		t.Errorf("changed to %v, %v", backing, values)
	}
	// Nodes beyond the length are no nodes of the diagram.
	if f, e := Read(2, backing[:1], 3); len(f) != 0 || e != api.ErrArg {
		t.Errorf("a root beyond the length: %v %d", f, e)
	}
	for _, empty := range [][]api.Branch{nil, {}} {
		if f, e := Read(1, empty, 1); !slices.Equal(f, table("11")) || e != api.OK {
			t.Errorf("Read of no nodes: %v %d", f, e)
		}
		if got, e := and(1, diagram{empty, 1}, diagram{empty, 1}); !same(got, diagram{nil, 1}) || e != api.OK {
			t.Errorf("And of no nodes: %v %d", got, e)
		}
	}
	if _, e := build(1, []bool{}); e != api.ErrForm {
		t.Errorf("Build of an empty list: %d", e)
	}
}
