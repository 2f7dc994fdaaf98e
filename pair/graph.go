package pair

import "kimberlite/api"

// graph is n stones, and for every two of them whether they are neighbours.
type graph struct {
	n    int
	near [api.MaxNodes][api.MaxNodes]bool
}

// newGraph returns the graph of these edges.
func newGraph(n int, edges []api.Edge) (graph, api.Errno) {
	if n < 0 || n > api.MaxNodes {
		return graph{}, api.ErrArg
	}
	if len(edges) > api.MaxEdges {
		return graph{}, api.ErrLimit
	}
	g := graph{n: n}
	for _, d := range edges {
		if !g.has(d.A) || !g.has(d.B) || d.A == d.B {
			return graph{}, api.ErrArg
		}
		g.near[d.A][d.B], g.near[d.B][d.A] = true, true
	}
	return g, api.OK
}

// has reports whether v is a stone of the graph.
func (g *graph) has(v int) bool { return 0 <= v && v < g.n }

// takeGroup takes the stones of v's group away, and returns how many these were:
// 0 if v is gone itself.
func (g *graph) takeGroup(v int, gone *[api.MaxNodes]bool) int {
	if gone[v] {
		return 0
	}
	gone[v] = true
	count := 1
	for w := range g.n {
		if g.near[v][w] {
			count += g.takeGroup(w, gone)
		}
	}
	return count
}

// matched returns the forest of a search that fails: its mates have as many pairs
// as possible.
func (g *graph) matched() forest {
	f := forest{graph: *g}
	for v := range f.n {
		f.mates[v] = f.n
	}
	for f.grow() {
	}
	return f
}
