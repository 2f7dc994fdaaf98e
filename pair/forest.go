package pair

import (
	"slices"

	"kimberlite/api"
)

// forest is a search for one pair more. Its trees grow from the single stones,
// their roots, along ways of which every other step is a pair. It consists of
// arrays only, so a copy of it is a forest of its own, on which something can be
// tried.
type forest struct {
	graph
	// mates has n for a single stone.
	mates [api.MaxNodes]int

	// A stone is reached if a way is known that goes from it to its mate first,
	// and at last to a root (from a root it is the root alone): the stones of the
	// way are the first steps[v] of ways[v]. Were the pairs along it broken up,
	// and its other steps made pairs, the stone would be single, and the root not.
	ways  [api.MaxNodes][api.MaxNodes]int
	steps [api.MaxNodes]int

	// The first count of order are the reached stones, as they were reached.
	order [api.MaxNodes]int
	count int
}

// newForest returns a forest with these mates, in which no stone is reached.
func newForest(n int, edges []api.Edge, mates []int) (forest, api.Errno) {
	g, e := newGraph(n, edges)
	if e != api.OK {
		return forest{}, e
	}
	if len(mates) != n {
		return forest{}, api.ErrArg
	}
	for v, m := range mates {
		if m != n && (!g.has(m) || !g.near[v][m] || mates[m] != v) {
			return forest{}, api.ErrArg
		}
	}
	f := forest{graph: g}
	copy(f.mates[:], mates)
	return f, api.OK
}

// list returns the mates of all stones.
func (f *forest) list() []int { return slices.Clone(f.mates[:f.n]) }

// pairs returns how many pairs the mates have.
func (f *forest) pairs() int {
	count := 0
	for v := range f.n {
		if f.mates[v] < v {
			count++
		}
	}
	return count
}

// pair makes two stones mates of each other.
func (f *forest) pair(v, w int) { f.mates[v], f.mates[w] = w, v }

// reached reports whether stone v is reached.
func (f *forest) reached(v int) bool { return f.steps[v] > 0 }

// besideReached reports whether stone v has a neighbour that is reached.
func (f *forest) besideReached(v int) bool {
	for w := range f.n {
		if f.near[v][w] && f.reached(w) {
			return true
		}
	}
	return false
}

// way returns the way from a stone that is reached to a root.
func (f *forest) way(v int) []int { return f.ways[v][:f.steps[v]] }

// reach notes the way from its first stone, which was not reached before.
func (f *forest) reach(way []int) {
	v := way[0]
	f.steps[v] = copy(f.ways[v][:], way)
	f.order[f.count] = v
	f.count++
}

// grow makes one pair more. If there cannot be one it changes no mates, and
// reports false; then just those stones are reached that other mates, with as
// many pairs, could leave single.
func (f *forest) grow() bool {
	f.steps, f.count = [api.MaxNodes]int{}, 0
	for v := range f.n {
		if f.mates[v] == f.n {
			f.reach([]int{v})
		}
	}
	for i := 0; i < f.count; i++ {
		v := f.order[i]
		for w := range f.n {
			if f.near[v][w] && f.follow(v, w) {
				return true
			}
		}
	}
	return false
}

// follow takes the forest along an edge from v, which is reached, to w, and
// reports whether this made one pair more.
func (f *forest) follow(v, w int) bool {
	switch {
	case !f.reached(w):
		if mate := f.mates[w]; !f.reached(mate) {
			f.reach(slices.Concat([]int{mate, w}, f.way(v)))
		}
	case f.root(v) != f.root(w):
		f.turn(slices.Concat(reversed(f.way(v)), f.way(w)))
		return true
	default:
		f.closeRing(v, w)
		f.closeRing(w, v)
	}
	return false
}

// root returns the last stone of the way from v.
func (f *forest) root(v int) int { return f.ways[v][f.steps[v]-1] }

// closeRing reaches the stones on the way from v, up to the one at which it meets
// the way from w, that were passed but not reached: back along the way to v, over
// the edge to w, and on from there.
//
// The ring is odd, and no stone of it need be shrunk into a blossom: ways that
// both pass a stone that is not reached pass the same such stones behind it. So
// the ways from v and from w have those in common from where they meet, and no
// stone at all before; a new way passes no stone twice.
func (f *forest) closeRing(v, w int) {
	for i, u := range f.way(v) {
		if !f.reached(u) && !slices.Contains(f.way(w), u) {
			f.reach(slices.Concat(reversed(f.way(v)[:i+1]), f.way(w)))
		}
	}
}

// turn makes a pair of every first and second stone of a way from root to root;
// all pairs that it had were of a second and a first one.
func (f *forest) turn(way []int) {
	for i := 0; i < len(way); i += 2 {
		f.pair(way[i], way[i+1])
	}
}

// settled returns the forest in which stone i has the first neighbour as its mate
// with which there are as many pairs as before. The two keep each other. If there
// is no such neighbour, i must be single, and will be.
func (f forest) settled(i int) forest {
	for j := range f.n {
		if !f.near[i][j] {
			continue
		}
		try := f
		try.hold(i, j)
		// At most two pairs were broken up for the new one.
		if try.pairs() == f.pairs() || try.grow() {
			return try
		}
	}
	return f
}

// hold makes two stones mates, and takes all their edges away, so that no search
// comes to them.
func (f *forest) hold(i, j int) {
	for _, v := range []int{i, j} {
		if mate := f.mates[v]; mate != f.n {
			f.mates[mate] = f.n
		}
		f.near[v] = [api.MaxNodes]bool{}
		for w := range f.n {
			f.near[w][v] = false
		}
	}
	f.pair(i, j)
}

// reversed returns a list backwards.
func reversed(l []int) []int {
	l = slices.Clone(l)
	slices.Reverse(l)
	return l
}
