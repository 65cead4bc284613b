package grant

import (
	"slices"

	"syllogist/api"
)

// most is how many vertices there may be.
const most = api.MaxObj + api.MaxGraph

// graph has the vertices below n, and the rights of each of them over each other one.
type graph struct {
	n      int
	rights [most][most]uint32
}

// isVertex tells whether there is a vertex with that number.
func (g *graph) isVertex(v int) bool {
	return v >= 0 && v < g.n
}

// apart tells whether a and b are two vertices.
func (g *graph) apart(a, b int) bool {
	return g.isVertex(a) && g.isVertex(b) && a != b
}

// has tells whether a has all of the rights over b.
func (g *graph) has(a, b int, rights uint32) bool {
	return g.rights[a][b]&rights == rights
}

// add gives a the rights over b.
func (g *graph) add(a, b int, rights uint32) {
	g.rights[a][b] |= rights
}

// remove takes the rights over b from a.
func (g *graph) remove(a, b int, rights uint32) {
	g.rights[a][b] &^= rights
}

// linked tells whether one of a and b has the right to take from the other one, or to grant to it.
func (g *graph) linked(a, b int) bool {
	return (g.rights[a][b]|g.rights[b][a])&(api.RTake|api.RGrant) != 0
}

// path returns a shortest list of vertices, each linked to the next one, from one that has the right over y to x; it is empty if there is none.
// Linked vertices can bring each other any right over others, and vertices between which there is no such list never get one, so it decides what x can have.
func (g *graph) path(x, y int, right uint32) []int {
	reached, toward := []int{x}, map[int]int{}
	for i := 0; i < len(reached); i++ {
		v := reached[i]
		if g.has(v, y, right) {
			return walk(toward, v, x)
		}
		for u := range g.n {
			if g.linked(u, v) && !slices.Contains(reached, u) {
				reached, toward[u] = append(reached, u), v
			}
		}
	}
	return nil
}

// walk returns the vertices from v to x, where toward has for each but x the next one.
func walk(toward map[int]int, v, x int) []int {
	path := []int{v}
	for v != x {
		v = toward[v]
		path = append(path, v)
	}
	return path
}

// edges returns all edges with at least one right, sorted.
func (g *graph) edges() []api.Edge {
	var edges []api.Edge
	for from := range g.n {
		for to, rights := range g.rights[from] {
			if rights != 0 {
				edges = append(edges, api.Edge{From: from, To: to, Rights: rights})
			}
		}
	}
	return edges
}
