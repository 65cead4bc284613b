package grant

import (
	"math"
	"slices"
	"testing"

	"syllogist/api"
)

const (
	rt, rg = uint32(api.RTake), uint32(api.RGrant)
	both   = rt | rg
	all    = uint32(math.MaxUint32)
	deny   = api.ErrDeny
)

func edge(from, to int, rights uint32) api.Edge {
	return api.Edge{From: from, To: to, Rights: rights}
}

func take(by, to, target int, rights uint32) api.Deed {
	return api.Deed{Kind: api.GTake, By: by, To: to, Label: api.Label{Level: target, Parts: rights}}
}

func give(by, to, target int, rights uint32) api.Deed {
	return api.Deed{Kind: api.GGrant, By: by, To: to, Label: api.Label{Level: target, Parts: rights}}
}

func create(by int) api.Deed { return api.Deed{Kind: api.GMake, By: by} }

func drop(by, to int, rights uint32) api.Deed {
	return api.Deed{Kind: api.GDrop, By: by, To: to, Label: api.Label{Parts: rights}}
}

// wantErrors calls all three functions, of which Can and Way have those numbers beside the graph.
func wantErrors(t *testing.T, name string, n int, edges []api.Edge, x, y int, right uint32, want api.Errno) {
	t.Helper()
	if got, e := Can(n, edges, x, y, right); e != want || got {
		t.Errorf("%s: can %v %d, want error %d", name, got, e, want)
	}
	if got, e := Way(n, edges, x, y, right); e != want || len(got) != 0 {
		t.Errorf("%s: way %v %d, want error %d", name, got, e, want)
	}
}

func TestCommonErrors(t *testing.T) {
	valid := []api.Edge{edge(0, 1, rt)}
	many := slices.Repeat([]api.Edge{edge(0, 1, 4)}, api.MaxPairs+1)
	last := append(slices.Repeat([]api.Edge{edge(0, 1, 4)}, api.MaxPairs-1), edge(1, 2, 4))
	cases := []struct {
		name  string
		n     int
		edges []api.Edge
		want  api.Errno
	}{
		{"no vertices", 0, nil, api.ErrLarge},
		{"fewer than none", -1, nil, api.ErrLarge},
		{"the least number of vertices", math.MinInt, nil, api.ErrLarge},
		{"too many vertices", api.MaxGraph + 1, valid, api.ErrLarge},
		{"as many vertices as there may be later", api.MaxGraph + api.MaxObj, valid, api.ErrLarge},
		{"the greatest number of vertices", math.MaxInt, valid, api.ErrLarge},
		{"too many edges", 2, many, api.ErrLarge},
		{"too many edges without rights", 2, slices.Repeat([]api.Edge{edge(0, 1, 0)}, api.MaxPairs+1), api.ErrLarge},
		{"far too many edges", 2, slices.Repeat(many, 50), api.ErrLarge},
		{"too many edges, of which the first is invalid", 2, append([]api.Edge{edge(0, 0, rt)}, many...), api.ErrLarge},
		{"too many edges, all of which are invalid", 1, many, api.ErrLarge},
		{"no vertices before an edge of one that there is not", 0, valid, api.ErrLarge},
		{"too many vertices before an invalid edge", api.MaxGraph + 1, []api.Edge{edge(-1, 0, rt)}, api.ErrLarge},
		{"too many vertices and too many edges", api.MaxGraph + 1, many, api.ErrLarge},

		{"from a negative vertex", 2, []api.Edge{edge(-1, 0, rt)}, api.ErrArg},
		{"to a negative vertex", 2, []api.Edge{edge(0, -1, rt)}, api.ErrArg},
		{"from one more than the last vertex", 2, []api.Edge{edge(2, 0, rt)}, api.ErrArg},
		{"to one more than the last vertex", 2, []api.Edge{edge(0, 2, rt)}, api.ErrArg},
		{"from the least number", 2, []api.Edge{edge(math.MinInt, 0, rt)}, api.ErrArg},
		{"to the least number", 2, []api.Edge{edge(0, math.MinInt, rt)}, api.ErrArg},
		{"from the greatest number", 2, []api.Edge{edge(math.MaxInt, 0, rt)}, api.ErrArg},
		{"to the greatest number", 2, []api.Edge{edge(0, math.MaxInt, rt)}, api.ErrArg},
		{"from a vertex beyond the most", api.MaxGraph, []api.Edge{edge(6, 0, rt)}, api.ErrArg},
		{"to a vertex that could be made", 2, []api.Edge{edge(0, 13, rt)}, api.ErrArg},
		{"to oneself", 2, []api.Edge{edge(1, 1, rt)}, api.ErrArg},
		{"to oneself, where there is nobody else", 1, []api.Edge{edge(0, 0, 4)}, api.ErrArg},
		{"both negative and the same", 2, []api.Edge{edge(-1, -1, rt)}, api.ErrArg},
		{"to oneself without rights", 2, []api.Edge{edge(0, 0, 0)}, api.ErrArg},
		{"to nobody without rights", 2, []api.Edge{edge(0, 2, 0)}, api.ErrArg},
		{"one vertex and an edge", 1, valid, api.ErrArg},
		{"the last edge", 2, []api.Edge{edge(0, 1, rt), edge(1, 0, rt), edge(1, 2, rt)}, api.ErrArg},
		{"the last of the most edges", 2, last, api.ErrArg},
		{"the first edge", 2, []api.Edge{edge(1, 1, rt), edge(1, 0, rt)}, api.ErrArg},
	}
	for _, c := range cases {
		if got, e := Play(c.n, c.edges, nil); e != c.want || !none(got) {
			t.Errorf("%s: %v %d, want error %d", c.name, got, e, c.want)
		}
		wantErrors(t, c.name, c.n, c.edges, 0, 1, 4, c.want)
		wantErrors(t, c.name+", and the same vertex twice", c.n, c.edges, 0, 0, 4, c.want)
		wantErrors(t, c.name+", and two rights", c.n, c.edges, 0, 1, both, c.want)
		wantErrors(t, c.name+", and all else is wrong", c.n, c.edges, -1, 99, 0, c.want)
	}
}

func TestErrorsOfPlay(t *testing.T) {
	deeds := make([]api.Deed, api.MaxDeeds+1)
	cases := []struct {
		name   string
		n      int
		edges  []api.Edge
		script []api.Deed
		want   api.Errno
	}{
		{"too many operations", 2, nil, deeds, api.ErrLarge},
		{"far too many operations that are valid", 2, nil, slices.Repeat([]api.Deed{drop(0, 1, 1)}, 1000), api.ErrLarge},
		{"too many operations before an invalid edge", 2, []api.Edge{edge(0, 0, 1)}, deeds, api.ErrLarge},
		{"too many operations and no vertices", 0, nil, deeds, api.ErrLarge},
		{"too many operations and too many edges", 2, make([]api.Edge, api.MaxPairs+1), deeds, api.ErrLarge},
		{"an invalid edge before an unknown kind", 2, []api.Edge{edge(1, 1, 1)}, deeds[1:], api.ErrArg},
		{"an edge to a vertex that is made later", 2, []api.Edge{edge(0, 2, 1)}, []api.Deed{create(0)}, api.ErrArg},
	}
	for _, c := range cases {
		if got, e := Play(c.n, c.edges, c.script); e != c.want || !none(got) {
			t.Errorf("%s: %v %d, want error %d", c.name, got, e, c.want)
		}
	}
}

func TestErrorsOfCanAndWay(t *testing.T) {
	cases := []struct {
		name  string
		n     int
		x, y  int
		right uint32
		want  api.Errno
	}{
		{"a negative x", 3, -1, 0, 4, api.ErrArg},
		{"a negative y", 3, 0, -1, 4, api.ErrArg},
		{"x one more than the last vertex", 3, 3, 0, 4, api.ErrArg},
		{"y one more than the last vertex", 3, 0, 3, 4, api.ErrArg},
		{"x the least number", 3, math.MinInt, 0, 4, api.ErrArg},
		{"y the least number", 3, 0, math.MinInt, 4, api.ErrArg},
		{"x the greatest number", 3, math.MaxInt, 0, 4, api.ErrArg},
		{"y the greatest number", 3, 0, math.MaxInt, 4, api.ErrArg},
		{"x a vertex that could be made", 6, 6, 0, 1, api.ErrArg},
		{"y a vertex that could be made", 6, 0, 6, 1, api.ErrArg},
		{"the same vertex twice", 3, 1, 1, 4, api.ErrArg},
		{"vertex 0 twice", 3, 0, 0, 1, api.ErrArg},
		{"the same number twice, which is no vertex", 3, 3, 3, 4, api.ErrArg},
		{"one vertex alone", 1, 0, 0, 4, api.ErrArg},
		{"one vertex and another one", 1, 0, 1, 4, api.ErrArg},
		{"x and no right", 3, 3, 0, 0, api.ErrArg},
		{"y and all rights", 3, 0, -1, all, api.ErrArg},
		{"the same and two rights", 3, 2, 2, both, api.ErrArg},

		{"no right", 3, 0, 1, 0, api.ErrRange},
		{"two rights", 3, 0, 1, both, api.ErrRange},
		{"three rights", 3, 0, 1, 7, api.ErrRange},
		{"the first and the last right", 3, 0, 1, 1<<31 | 1, api.ErrRange},
		{"all rights", 3, 0, 1, all, api.ErrRange},
		{"all rights but one", 3, 0, 1, all - 1, api.ErrRange},
		{"two rights that one has", 3, 0, 2, 12, api.ErrRange},
		{"no right over one of whom nobody has any", 3, 2, 0, 0, api.ErrRange},
	}
	for _, c := range cases {
		var edges []api.Edge
		if c.n == 3 {
			edges = []api.Edge{edge(0, 1, both), edge(0, 2, 12)}
		}
		wantErrors(t, c.name, c.n, edges, c.x, c.y, c.right, c.want)
	}
}

// TestLimits has as many vertices, edges and operations as there may be, and as few.
func TestLimits(t *testing.T) {
	edges := slices.Repeat([]api.Edge{edge(5, 4, rt), edge(4, 3, all)}, api.MaxPairs/2)
	script := slices.Repeat([]api.Deed{take(5, 4, 3, all), take(3, 5, 4, 1), drop(5, 3, 1)}, api.MaxDeeds/3)
	want := api.Graph{N: 6, Edges: []api.Edge{edge(4, 3, all), edge(5, 3, all-1), edge(5, 4, rt)}}
	want.Codes = slices.Repeat([]api.Errno{0, deny, 0}, api.MaxDeeds/3)
	if got, e := Play(api.MaxGraph, edges, script); !same(got, want) || e != api.OK {
		t.Errorf("the most of all: %v %d, want %v", got, e, want)
	}
	if got, e := Can(api.MaxGraph, edges, 5, 3, 1<<31); !got || e != api.OK {
		t.Errorf("the most of all: can %v %d", got, e)
	}
	if got, e := Way(api.MaxGraph, edges, 3, 0, 1); len(got) != 0 || e != api.ErrNone {
		t.Errorf("the most of all: way %v %d", got, e)
	}
	if got, e := Play(1, nil, nil); !same(got, api.Graph{N: 1}) || e != api.OK {
		t.Errorf("one vertex alone: %v %d", got, e)
	}
}

// TestNewVertices makes as many vertices as there may be, and one more.
func TestNewVertices(t *testing.T) {
	for n := 1; n <= api.MaxGraph; n++ {
		room := api.MaxObj + api.MaxGraph - n
		script := slices.Repeat([]api.Deed{create(0)}, room)
		want := api.Graph{Codes: make([]api.Errno, room), N: 14}
		for v := n; v < want.N; v++ {
			want.Edges = append(want.Edges, edge(0, v, both))
		}
		if got, e := Play(n, nil, script); !same(got, want) || e != api.OK {
			t.Errorf("%d vertices: %v %d, want %v", n, got, e, want)
		}
		script = append(script, create(0), create(13), create(14), drop(0, 13, 1))
		want.Codes = append(want.Codes, api.ErrLarge, api.ErrLarge, api.ErrArg, 0)
		want.Edges[len(want.Edges)-1].Rights = rg
		if got, e := Play(n, nil, script); !same(got, want) || e != api.OK {
			t.Errorf("%d vertices and one too many: %v %d, want %v", n, got, e, want)
		}
	}
}

// TestCodesOfInvalidOperations sets one operation between others: it must have that code, and no effect.
func TestCodesOfInvalidOperations(t *testing.T) {
	const arg = api.ErrArg
	cases := []struct {
		name string
		d    api.Deed
		want api.Errno
	}{
		{"kind 0", api.Deed{}, api.ErrKind},
		{"kind 5", api.Deed{Kind: 5, To: 1}, api.ErrKind},
		{"a negative kind", api.Deed{Kind: -1, To: 1}, api.ErrKind},
		{"the least kind", api.Deed{Kind: math.MinInt}, api.ErrKind},
		{"the greatest kind", api.Deed{Kind: math.MaxInt}, api.ErrKind},
		{"a kind beyond a byte", api.Deed{Kind: 256 + api.GMake}, api.ErrKind},
		{"an unknown kind before a vertex that there is not", api.Deed{Kind: 5, By: 4, To: 4}, api.ErrKind},
		{"an unknown kind before the same vertex twice", api.Deed{Kind: 5, By: 1, To: 1}, api.ErrKind},

		{"taking by one more than the last", take(4, 1, 2, 4), arg},
		{"taking by a negative vertex", take(-1, 1, 2, 4), arg},
		{"taking by the least number", take(math.MinInt, 1, 2, 4), arg},
		{"taking by the greatest number", take(math.MaxInt, 1, 2, 4), arg},
		{"taking from one more than the last", take(0, 4, 2, 4), arg},
		{"taking from a negative vertex", take(0, -1, 2, 4), arg},
		{"taking from the greatest number", take(0, math.MaxInt, 2, 4), arg},
		{"taking over one more than the last", take(0, 1, 4, 4), arg},
		{"taking over a negative vertex", take(0, 1, -1, 4), arg},
		{"taking over the least number", take(0, 1, math.MinInt, 4), arg},
		{"taking over the greatest number", take(0, 1, math.MaxInt, 4), arg},
		{"taking from oneself", take(0, 0, 1, 1), arg},
		{"taking over oneself", take(0, 1, 0, 4), arg},
		{"taking nothing over oneself", take(0, 1, 0, 0), arg},
		{"taking nothing from oneself", take(0, 0, 1, 0), arg},
		{"taking over one that there is not, without the right to", take(1, 0, 4, 4), arg},
		{"taking over oneself, without the right to", take(2, 0, 2, 4), arg},

		{"granting by one more than the last", give(4, 1, 2, 4), arg},
		{"granting by a negative vertex", give(-1, 1, 2, 4), arg},
		{"granting by the greatest number", give(math.MaxInt, 1, 2, 4), arg},
		{"granting to one more than the last", give(0, 4, 2, 4), arg},
		{"granting to a negative vertex", give(0, -1, 2, 4), arg},
		{"granting to the least number", give(0, math.MinInt, 2, 4), arg},
		{"granting over one more than the last", give(0, 3, 4, 4), arg},
		{"granting over a negative vertex", give(0, 3, -1, 4), arg},
		{"granting over the greatest number", give(0, 3, math.MaxInt, 4), arg},
		{"granting to oneself", give(0, 0, 1, 1), arg},
		{"granting over the one that receives", give(0, 3, 3, 2), arg},
		{"granting nothing over the one that receives", give(0, 3, 3, 0), arg},
		{"granting nothing to oneself", give(0, 0, 1, 0), arg},

		{"making by one more than the last", create(4), arg},
		{"making by a negative vertex", create(-1), arg},
		{"making by the greatest number", create(math.MaxInt), arg},
		{"making by the least number", create(math.MinInt), arg},

		{"dropping by one more than the last", drop(4, 1, 1), arg},
		{"dropping by a negative vertex", drop(-1, 1, 1), arg},
		{"dropping one more than the last", drop(0, 4, 1), arg},
		{"dropping a negative vertex", drop(0, -1, 1), arg},
		{"dropping the greatest number", drop(0, math.MaxInt, 1), arg},
		{"dropping the least number", drop(0, math.MinInt, 1), arg},
		{"dropping oneself", drop(0, 0, 1), arg},

		{"taking without any right", take(1, 0, 3, 2), deny},
		{"taking with the right to grant", take(0, 3, 2, 8), deny},
		{"taking what the other one has not", take(0, 1, 2, 16), deny},
		{"taking more than the other one has", take(0, 1, 2, 4|16), deny},
		{"taking nothing without the right to", take(2, 1, 0, 0), deny},
		{"taking what the other one has over itself", take(0, 1, 1, 1), deny},
		{"taking the wrong way", take(1, 0, 2, 1), deny},
		{"granting without any right", give(3, 0, 2, 8), deny},
		{"granting with the right to take", give(0, 1, 3, 2), deny},
		{"granting what one has not", give(0, 3, 1, 8), deny},
		{"granting more than one has", give(0, 3, 1, 1|8), deny},
		{"granting what the receiver has", give(0, 3, 2, 8), deny},
		{"granting nothing without the right to", give(1, 2, 3, 0), deny},
		{"granting what one has over oneself", give(0, 3, 0, 1), deny},
		{"granting the wrong way", give(3, 0, 1, 0), deny},
	}
	edges := []api.Edge{edge(0, 1, rt), edge(1, 2, 4), edge(0, 3, rg), edge(3, 2, 8)}
	for _, c := range cases {
		script := []api.Deed{drop(2, 1, all), c.d, take(0, 1, 2, 4), give(0, 3, 1, 1), create(3)}
		want := api.Graph{Codes: []api.Errno{0, c.want, 0, 0, 0}, N: 5}
		want.Edges = []api.Edge{edge(0, 1, rt), edge(0, 2, 4), edge(0, 3, rg), edge(1, 2, 4), edge(3, 1, 1), edge(3, 2, 8), edge(3, 4, both)}
		if got, e := Play(4, edges, script); !same(got, want) || e != api.OK {
			t.Errorf("%s: %v %d, want %v", c.name, got, e, want)
		}
	}
}

func TestPlay(t *testing.T) {
	cases := []struct {
		name   string
		n      int
		edges  []api.Edge
		script []api.Deed
		codes  []api.Errno
		size   int
		want   []api.Edge
	}{
		{"edges are sorted", 3, []api.Edge{edge(2, 1, 4), edge(2, 0, 8), edge(0, 2, 1), edge(0, 1, 2), edge(1, 0, 3)}, nil, nil, 3, []api.Edge{edge(0, 1, 2), edge(0, 2, 1), edge(1, 0, 3), edge(2, 0, 8), edge(2, 1, 4)}},
		{"edges of one pair are combined", 2, []api.Edge{edge(0, 1, 1), edge(1, 0, 8), edge(0, 1, 4), edge(0, 1, 5)}, nil, nil, 2, []api.Edge{edge(0, 1, 5), edge(1, 0, 8)}},
		{"edges without rights", 2, []api.Edge{edge(0, 1, 0), edge(1, 0, 0), edge(1, 0, 2)}, nil, nil, 2, []api.Edge{edge(1, 0, 2)}},
		{"all rights", 2, []api.Edge{edge(0, 1, all), edge(0, 1, 0)}, nil, nil, 2, []api.Edge{edge(0, 1, all)}},
		{"the shared example", 3, []api.Edge{edge(0, 1, rt), edge(1, 2, 4)}, []api.Deed{take(0, 1, 2, 4), create(0)}, []api.Errno{0, 0}, 4, []api.Edge{edge(0, 1, rt), edge(0, 2, 4), edge(0, 3, both), edge(1, 2, 4)}},

		{"rights that are taken are added", 3, []api.Edge{edge(0, 1, rt), edge(1, 2, 12), edge(0, 2, 16)}, []api.Deed{take(0, 1, 2, 8)}, []api.Errno{0}, 3, []api.Edge{edge(0, 1, rt), edge(0, 2, 24), edge(1, 2, 12)}},
		{"several rights are taken together", 3, []api.Edge{edge(0, 1, rt), edge(1, 2, all)}, []api.Deed{take(0, 1, 2, all)}, []api.Errno{0}, 3, []api.Edge{edge(0, 1, rt), edge(0, 2, all), edge(1, 2, all)}},
		{"rights of two edges are taken together", 3, []api.Edge{edge(0, 1, 8), edge(1, 2, 4), edge(0, 1, rt), edge(1, 2, 8)}, []api.Deed{take(0, 1, 2, 12)}, []api.Errno{0}, 3, []api.Edge{edge(0, 1, 9), edge(0, 2, 12), edge(1, 2, 12)}},
		{"what one has already is taken", 3, []api.Edge{edge(0, 1, rt), edge(1, 2, 4), edge(0, 2, 4)}, []api.Deed{take(0, 1, 2, 4)}, []api.Errno{0}, 3, []api.Edge{edge(0, 1, rt), edge(0, 2, 4), edge(1, 2, 4)}},
		{"nothing is taken", 3, []api.Edge{edge(0, 1, rt)}, []api.Deed{take(0, 1, 2, 0)}, []api.Errno{0}, 3, []api.Edge{edge(0, 1, rt)}},
		{"nothing is taken over the one from whom it is taken", 2, []api.Edge{edge(0, 1, rt)}, []api.Deed{take(0, 1, 1, 0)}, []api.Errno{0}, 2, []api.Edge{edge(0, 1, rt)}},
		{"taking by what was taken", 4, []api.Edge{edge(0, 1, rt), edge(1, 2, rt), edge(2, 3, 4)}, []api.Deed{take(0, 2, 3, 4), take(0, 1, 2, rt), take(0, 2, 3, 4)}, []api.Errno{deny, 0, 0}, 4, []api.Edge{edge(0, 1, rt), edge(0, 2, rt), edge(0, 3, 4), edge(1, 2, rt), edge(2, 3, 4)}},

		{"rights that are granted are added", 3, []api.Edge{edge(0, 1, rg), edge(0, 2, 12), edge(1, 2, 16)}, []api.Deed{give(0, 1, 2, 8)}, []api.Errno{0}, 3, []api.Edge{edge(0, 1, rg), edge(0, 2, 12), edge(1, 2, 24)}},
		{"several rights are granted together", 3, []api.Edge{edge(0, 1, rg), edge(0, 2, all)}, []api.Deed{give(0, 1, 2, all)}, []api.Errno{0}, 3, []api.Edge{edge(0, 1, rg), edge(0, 2, all), edge(1, 2, all)}},
		{"what the other one has already is granted", 3, []api.Edge{edge(0, 1, rg), edge(0, 2, 4), edge(1, 2, 4)}, []api.Deed{give(0, 1, 2, 4)}, []api.Errno{0}, 3, []api.Edge{edge(0, 1, rg), edge(0, 2, 4), edge(1, 2, 4)}},
		{"nothing is granted", 3, []api.Edge{edge(0, 1, rg)}, []api.Deed{give(0, 1, 2, 0)}, []api.Errno{0}, 3, []api.Edge{edge(0, 1, rg)}},
		{"nothing is granted over the one who grants", 2, []api.Edge{edge(0, 1, rg)}, []api.Deed{give(0, 1, 0, 0)}, []api.Errno{0}, 2, []api.Edge{edge(0, 1, rg)}},
		{"granting what was granted", 4, []api.Edge{edge(0, 1, rg), edge(1, 2, rg), edge(0, 3, 4)}, []api.Deed{give(1, 2, 3, 4), give(0, 1, 3, 4), give(1, 2, 3, 4)}, []api.Errno{deny, 0, 0}, 4, []api.Edge{edge(0, 1, rg), edge(0, 3, 4), edge(1, 2, rg), edge(1, 3, 4), edge(2, 3, 4)}},
		{"the right to grant is granted", 3, []api.Edge{edge(0, 1, rg), edge(0, 2, both), edge(1, 0, 4)}, []api.Deed{give(1, 2, 0, 4), give(0, 1, 2, rg), give(1, 2, 0, 4)}, []api.Errno{deny, 0, 0}, 3, []api.Edge{edge(0, 1, rg), edge(0, 2, both), edge(1, 0, 4), edge(1, 2, rg), edge(2, 0, 4)}},

		{"new vertices have the next numbers", 2, nil, []api.Deed{create(1), create(0), create(2)}, []api.Errno{0, 0, 0}, 5, []api.Edge{edge(0, 3, both), edge(1, 2, both), edge(2, 4, both)}},
		{"a new vertex does as others do", 2, []api.Edge{edge(0, 1, 4)}, []api.Deed{create(0), give(0, 2, 1, 4), create(2), give(2, 3, 1, 4), drop(2, 1, 4), take(2, 3, 1, 4)}, []api.Errno{0, 0, 0, 0, 0, 0}, 4, []api.Edge{edge(0, 1, 4), edge(0, 2, both), edge(2, 1, 4), edge(2, 3, both), edge(3, 1, 4)}},
		{"a vertex before it is made", 1, nil, []api.Deed{create(1), drop(0, 1, 1), create(0), create(1), drop(0, 1, 1)}, []api.Errno{api.ErrArg, api.ErrArg, 0, 0, 0}, 3, []api.Edge{edge(0, 1, rg), edge(1, 2, both)}},
		{"over a new vertex", 2, []api.Edge{edge(0, 1, rt)}, []api.Deed{create(1), take(0, 1, 2, both)}, []api.Errno{0, 0}, 3, []api.Edge{edge(0, 1, rt), edge(0, 2, both), edge(1, 2, both)}},
		{"a denied making leaves no number", 1, nil, []api.Deed{create(-1), create(0)}, []api.Errno{api.ErrArg, 0}, 2, []api.Edge{edge(0, 1, both)}},

		{"some rights are dropped", 2, []api.Edge{edge(0, 1, 15)}, []api.Deed{drop(0, 1, 5)}, []api.Errno{0}, 2, []api.Edge{edge(0, 1, 10)}},
		{"all rights are dropped", 2, []api.Edge{edge(0, 1, 15), edge(1, 0, 15)}, []api.Deed{drop(0, 1, all)}, []api.Errno{0}, 2, []api.Edge{edge(1, 0, 15)}},
		{"no rights are dropped", 2, []api.Edge{edge(0, 1, 15)}, []api.Deed{drop(0, 1, 0)}, []api.Errno{0}, 2, []api.Edge{edge(0, 1, 15)}},
		{"rights are dropped that one has not", 2, []api.Edge{edge(0, 1, 2)}, []api.Deed{drop(0, 1, 4), drop(1, 0, 1)}, []api.Errno{0, 0}, 2, []api.Edge{edge(0, 1, 2)}},
		{"rights of two edges are dropped", 2, []api.Edge{edge(0, 1, 5), edge(0, 1, 3)}, []api.Deed{drop(0, 1, 1)}, []api.Errno{0}, 2, []api.Edge{edge(0, 1, 6)}},
		{"nothing is taken after the right to is dropped", 3, []api.Edge{edge(0, 1, both), edge(1, 2, 4)}, []api.Deed{drop(0, 1, rt), take(0, 1, 2, 4)}, []api.Errno{0, deny}, 3, []api.Edge{edge(0, 1, rg), edge(1, 2, 4)}},
		{"what others have of it stays", 3, []api.Edge{edge(0, 1, rt), edge(1, 2, 4)}, []api.Deed{take(0, 1, 2, 4), drop(1, 2, 4)}, []api.Errno{0, 0}, 3, []api.Edge{edge(0, 1, rt), edge(0, 2, 4)}},
		{"what was dropped is taken again", 3, []api.Edge{edge(0, 1, rt), edge(1, 2, 4)}, []api.Deed{take(0, 1, 2, 4), drop(0, 2, 4), take(0, 1, 2, 4)}, []api.Errno{0, 0, 0}, 3, []api.Edge{edge(0, 1, rt), edge(0, 2, 4), edge(1, 2, 4)}},
		{"a new vertex is dropped, and stays", 1, nil, []api.Deed{create(0), drop(0, 1, both), create(0)}, []api.Errno{0, 0, 0}, 3, []api.Edge{edge(0, 2, both)}},
	}
	for _, c := range cases {
		want := api.Graph{Codes: c.codes, N: c.size, Edges: c.want}
		if got, e := Play(c.n, c.edges, c.script); !same(got, want) || e != api.OK {
			t.Errorf("%s: %v %d, want %v", c.name, got, e, want)
		}
	}
}

func TestCanAndWay(t *testing.T) {
	cases := []struct {
		name  string
		n     int
		edges []api.Edge
		x, y  int
		right uint32
		want  bool
	}{
		{"no edges", 2, nil, 0, 1, 4, false},
		{"the document's example", 3, []api.Edge{edge(0, 1, rt), edge(1, 2, rg)}, 0, 2, rg, true},
		{"the document's example with another right", 3, []api.Edge{edge(0, 1, rt), edge(1, 2, rg|4)}, 0, 2, 4, true},
		{"a right that nobody has", 3, []api.Edge{edge(0, 1, both), edge(1, 2, both)}, 0, 2, 4, false},
		{"the shared example", 3, []api.Edge{edge(0, 1, rt), edge(1, 2, 4)}, 0, 2, 4, true},
		{"the shared example the other way round", 3, []api.Edge{edge(0, 1, rt), edge(1, 2, 4)}, 2, 0, 4, false},
		{"one has it already", 2, []api.Edge{edge(0, 1, 4)}, 0, 1, 4, true},
		{"one has it by the second edge", 2, []api.Edge{edge(0, 1, 1), edge(0, 1, 4)}, 0, 1, 4, true},
		{"the other one has it", 2, []api.Edge{edge(0, 1, 4)}, 1, 0, 4, false},
		{"an edge without rights", 2, []api.Edge{edge(0, 1, 0)}, 0, 1, 1, false},

		{"taking", 3, []api.Edge{edge(0, 1, rt), edge(1, 2, 1<<31)}, 0, 2, 1 << 31, true},
		{"granting", 3, []api.Edge{edge(1, 0, rg), edge(1, 2, 4)}, 0, 2, 4, true},
		{"taking the wrong way", 3, []api.Edge{edge(1, 0, rt), edge(1, 2, 4)}, 0, 2, 4, true},
		{"granting the wrong way", 3, []api.Edge{edge(0, 1, rg), edge(1, 2, 4)}, 0, 2, 4, true},
		{"other rights do not pass it on", 3, []api.Edge{edge(0, 1, all&^both), edge(1, 0, all&^both), edge(1, 2, 4)}, 0, 2, 4, false},
		{"nobody is between", 3, []api.Edge{edge(1, 2, 4)}, 0, 2, 4, false},
		{"only over the other one", 3, []api.Edge{edge(0, 2, both), edge(1, 2, 4)}, 0, 2, 4, false},
		{"by way of the one whom it is over", 3, []api.Edge{edge(0, 2, both), edge(1, 2, 4|rt)}, 0, 2, 4, true},
		{"by way of the one whom it is over, who takes from both", 3, []api.Edge{edge(2, 0, rt), edge(2, 1, rt), edge(1, 2, 4)}, 0, 2, 4, true},
		{"by way of the one whom it is over, who grants to both", 3, []api.Edge{edge(2, 0, rg), edge(2, 1, rg), edge(1, 2, 4)}, 0, 2, 4, true},
		{"a right to take over the one from whom it is taken", 3, []api.Edge{edge(1, 0, rt), edge(2, 1, rt)}, 0, 1, rt, true},
		{"a right over the one who has the only link", 2, []api.Edge{edge(1, 0, both)}, 0, 1, rt, false},
		{"one link of two is missing", 4, []api.Edge{edge(0, 1, rt), edge(2, 3, 4)}, 0, 3, 4, false},
		{"along a path of six", 6, []api.Edge{edge(0, 1, rg), edge(2, 1, rt), edge(2, 3, rg), edge(4, 3, rt), edge(4, 5, rg), edge(5, 1, 4)}, 0, 1, 4, true},
		{"from both ends of a path", 5, []api.Edge{edge(0, 1, rg), edge(2, 1, rt), edge(2, 3, rg), edge(3, 4, 4), edge(0, 4, 8)}, 3, 4, 8, true},
		{"the right of another component", 6, []api.Edge{edge(0, 1, both), edge(1, 2, both), edge(3, 4, both), edge(4, 5, 4), edge(3, 5, 8)}, 0, 5, 4, false},
		{"over one of another component", 4, []api.Edge{edge(0, 1, rt), edge(1, 3, 4), edge(2, 3, both)}, 0, 3, 4, true},
		{"a component is joined only by take and grant", 4, []api.Edge{edge(0, 1, 4), edge(1, 2, rt), edge(2, 3, 8)}, 0, 3, 8, false},
	}
	for _, c := range cases {
		compareCan(t, c.n, c.edges, c.x, c.y, c.right, c.want)
	}
}

// TestFieldsThatAreNotUsed fills those with numbers, rights and labels of all kinds.
func TestFieldsThatAreNotUsed(t *testing.T) {
	edges := []api.Edge{edge(0, 1, rt), edge(1, 2, 12)}
	script := []api.Deed{take(0, 1, 2, 12), create(2), drop(0, 2, 8), give(2, 3, 0, 0)}
	want := api.Graph{Codes: make([]api.Errno, 4), N: 4}
	want.Edges = []api.Edge{edge(0, 1, rt), edge(0, 2, 4), edge(1, 2, 12), edge(2, 3, both)}
	for _, number := range []int{0, 1, 2, 3, 4, -1, 99, math.MinInt, math.MaxInt} {
		for _, rights := range []uint32{0, 1, both, 4, all} {
			filled := slices.Clone(script)
			for i := range filled {
				filled[i].Val = number
			}
			filled[1].To = number
			filled[1].Label = api.Label{Level: number, Parts: rights}
			filled[2].Label.Level = number
			if got, e := Play(3, edges, filled); !same(got, want) || e != api.OK {
				t.Errorf("%d and rights %d: %v %d, want %v", number, rights, got, e, want)
			}
		}
	}
}

// TestArgumentsAreKept has more behind each list, which must stay as it is, too.
func TestArgumentsAreKept(t *testing.T) {
	allEdges := []api.Edge{edge(1, 2, 4), edge(0, 1, rt), edge(1, 2, 8), edge(0, 2, 16), edge(9, 9, 9)}
	allDeeds := []api.Deed{take(0, 1, 2, 12), create(0), take(1, 0, 2, 4), create(1), {Kind: 9}}
	edgesBefore, deedsBefore := slices.Clone(allEdges), slices.Clone(allDeeds)
	edges, script := allEdges[:3], allDeeds[:3]
	want := api.Graph{Codes: []api.Errno{0, 0, deny}, N: 4}
	want.Edges = []api.Edge{edge(0, 1, rt), edge(0, 2, 12), edge(0, 3, both), edge(1, 2, 12)}
	for range 2 {
		if is, e := Can(3, edges, 0, 2, 16); is || e != api.OK {
			t.Errorf("can %v %d", is, e)
		}
		way, e := Way(3, edges, 0, 2, 4)
		if len(way) == 0 || e != api.OK {
			t.Fatalf("way %v %d", way, e)
		}
		got, e := Play(3, edges, script)
		if !same(got, want) || e != api.OK {
			t.Errorf("%v %d, want %v", got, e, want)
		}
		// Neither the arguments nor a later call must see what is written into a result, and the other way round.
		for i := range got.Codes {
			got.Codes[i] = 77
		}
		for i := range got.Edges {
			got.Edges[i] = edge(77, 77, 77)
		}
		for i := range way {
			way[i] = api.Deed{Kind: 77}
		}
		got.Codes, got.Edges = append(got.Codes, 78), append(got.Edges, edge(78, 78, 78))
		way = append(way, api.Deed{Kind: 78})
		if !slices.Equal(allEdges, edgesBefore) || !slices.Equal(allDeeds, deedsBefore) {
			t.Errorf("the arguments are %v and %v", allEdges, allDeeds)
		}
		mine, myWay := api.Graph{Codes: slices.Clone(got.Codes), N: got.N, Edges: slices.Clone(got.Edges)}, slices.Clone(way)
		for i := range allEdges {
			allEdges[i] = edge(79, 79, 79)
		}
		for i := range allDeeds {
			allDeeds[i] = api.Deed{Kind: 79}
		}
		if !same(got, mine) || !slices.Equal(way, myWay) {
			t.Errorf("the results have become %v and %v", got, way)
		}
		copy(allEdges, edgesBefore)
		copy(allDeeds, deedsBefore)
	}
}

func TestNilAndEmptyListsAreTheSame(t *testing.T) {
	for _, edges := range [][]api.Edge{nil, {}} {
		for _, script := range [][]api.Deed{nil, {}} {
			if got, e := Play(2, edges, script); !same(got, api.Graph{N: 2}) || e != api.OK {
				t.Errorf("%v %d", got, e)
			}
		}
		if got, e := Play(1, edges, []api.Deed{create(0)}); !same(got, api.Graph{Codes: []api.Errno{0}, N: 2, Edges: []api.Edge{edge(0, 1, both)}}) || e != api.OK {
			t.Errorf("%v %d", got, e)
		}
		if is, e := Can(2, edges, 0, 1, 4); is || e != api.OK {
			t.Errorf("can %v %d", is, e)
		}
		if way, e := Way(2, edges, 0, 1, 4); len(way) != 0 || e != api.ErrNone {
			t.Errorf("way %v %d", way, e)
		}
	}
}
