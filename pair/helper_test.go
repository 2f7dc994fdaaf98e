package pair_test

import (
	"math/bits"
	"slices"
	"testing"

	"kimberlite/api"
)

const (
	maxInt   = int(^uint(0) >> 1)
	minInt   = -maxInt - 1
	maxNodes = api.MaxNodes
	maxEdges = api.MaxEdges
	maxSize  = api.MaxSize
)

// ed makes edges of the ends A, B, A, B and so on.
func ed(ends ...int) []api.Edge {
	var l []api.Edge
	for i := 0; i+1 < len(ends); i += 2 {
		l = append(l, api.Edge{A: ends[i], B: ends[i+1]})
	}
	return l
}

// path is the edges from each stone to the next one.
func path(stones ...int) []api.Edge {
	var l []api.Edge
	for i := 1; i < len(stones); i++ {
		l = append(l, api.Edge{A: stones[i-1], B: stones[i]})
	}
	return l
}

// ring is a path that comes back to its beginning.
func ring(stones ...int) []api.Edge {
	return append(path(stones...), api.Edge{A: stones[len(stones)-1], B: stones[0]})
}

// every is an edge of every two of the stones from lo to hi - 1.
func every(lo, hi int) []api.Edge {
	var l []api.Edge
	for a := lo; a < hi; a++ {
		for b := a + 1; b < hi; b++ {
			l = append(l, api.Edge{A: a, B: b})
		}
	}
	return l
}

// full is just as many edges as there may be, on 24 stones: groups of 16, 4, 2
// and 2 stones, in each of which all are neighbours.
func full() []api.Edge {
	return slices.Concat(every(0, 16), every(16, 20), every(20, 22), every(22, 24))
}

// board is a graph as the tests see it: the set of bits of each stone's neighbours.
type board struct {
	near []uint
	memo map[uint]int
}

func boardOf(n int, edges []api.Edge) *board {
	b := &board{near: make([]uint, n), memo: map[uint]int{}}
	for _, d := range edges {
		b.near[d.A] |= 1 << d.B
		b.near[d.B] |= 1 << d.A
	}
	return b
}

// all is the set of all stones.
func (b *board) all() uint { return 1<<len(b.near) - 1 }

// most is the most pairs that can be made of a set of stones: its first stone
// stays single, or has one of its neighbours.
func (b *board) most(set uint) int {
	if set == 0 {
		return 0
	}
	if m, ok := b.memo[set]; ok {
		return m
	}
	v := bits.TrailingZeros(set)
	rest := set &^ (1 << v)
	m := b.most(rest)
	for _, w := range members(b.near[v] & rest) {
		m = max(m, 1+b.most(rest&^(1<<w)))
	}
	b.memo[set] = m
	return m
}

// first is the first of all mates with as many pairs as possible: each stone in
// turn takes the first neighbour with which there can be so many.
func (b *board) first() []int {
	n := len(b.near)
	mates := slices.Repeat([]int{n}, n)
	for set := b.all(); set != 0; {
		v := bits.TrailingZeros(set)
		rest := set &^ (1 << v)
		for _, w := range members(b.near[v] & rest) {
			if 1+b.most(rest&^(1<<w)) == b.most(set) {
				mates[v], mates[w] = w, v
				rest &^= 1 << w
				break
			}
		}
		set = rest
	}
	return mates
}

// parts is what the chapter calls 0, 1 and 2.
func (b *board) parts() []int {
	parts := slices.Repeat([]int{2}, len(b.near))
	for v := range parts {
		if b.most(b.all()&^(1<<v)) == b.most(b.all()) {
			parts[v] = 0
		}
	}
	for v := range parts {
		for _, w := range members(b.near[v]) {
			if parts[v] == 2 && parts[w] == 0 {
				parts[v] = 1
			}
		}
	}
	return parts
}

// odd is how many groups of a set of stones are odd: each grows until there are
// no more neighbours to be added.
func (b *board) odd(set uint) int {
	count := 0
	for set != 0 {
		group := set & -set
		for was := uint(0); was != group; {
			was = group
			for _, v := range members(group) {
				group |= b.near[v] & set
			}
		}
		set &^= group
		count += bits.OnesCount(group) % 2
	}
	return count
}

// mates is all mates of the graph, in lexicographic order.
func (b *board) mates() [][]int {
	n := len(b.near)
	var all [][]int
	var grow func(mates []int, v int)
	grow = func(mates []int, v int) {
		if v == n {
			all = append(all, mates)
			return
		}
		if mates[v] < v {
			grow(mates, v+1)
			return
		}
		for _, w := range members(b.near[v] >> v << v) {
			if mates[w] == n {
				next := slices.Clone(mates)
				next[v], next[w] = w, v
				grow(next, v+1)
			}
		}
		grow(mates, v+1)
	}
	grow(slices.Repeat([]int{n}, n), 0)
	return all
}

// areMates reports whether they are mates of the graph.
func (b *board) areMates(mates []int) bool {
	n := len(b.near)
	if len(mates) != n {
		return false
	}
	for v, w := range mates {
		if w != n && (w < 0 || w > n || b.near[v]>>w&1 == 0 || mates[w] != v) {
			return false
		}
	}
	return true
}

// pairsOf is how many pairs mates have.
func pairsOf(mates []int) int {
	paired := 0
	for _, w := range mates {
		if w != len(mates) {
			paired++
		}
	}
	return paired / 2
}

// members are the bits of a set.
func members(set uint) []int {
	var l []int
	for ; set != 0; set &= set - 1 {
		l = append(l, bits.TrailingZeros(set))
	}
	return l
}

// setOf is the set of some stones.
func setOf(stones []int) uint {
	set := uint(0)
	for _, v := range stones {
		set |= 1 << v
	}
	return set
}

// partIs is the set of the stones for which parts says number.
func partIs(parts []int, number int) uint {
	set := uint(0)
	for v, p := range parts {
		if p == number {
			set |= 1 << v
		}
	}
	return set
}

// graphs goes through all graphs of n stones; the edges are shuffled, in any
// direction, and some stand there twice.
func graphs(n int) func(yield func([]api.Edge) bool) {
	pairs := every(0, n)
	return func(yield func([]api.Edge) bool) {
		d := dice(n)
		for set := range uint(1) << len(pairs) {
			var l []api.Edge
			for _, i := range members(set) {
				l = append(l, pairs[i])
			}
			if !yield(d.messy(l)) {
				return
			}
		}
	}
}

// wantMatch fails unless Match gave just this.
func wantMatch(t *testing.T, want ...int) func([]int, int, api.Errno) {
	return func(got []int, pairs int, e api.Errno) {
		t.Helper()
		if e != api.OK || pairs != pairsOf(want) || !slices.Equal(got, want) {
			t.Fatalf("got %v, %d, error %d; want %v", got, pairs, e, want)
		}
	}
}

// wantNoMatch fails unless Match gave this error and nothing else.
func wantNoMatch(t *testing.T, want api.Errno) func([]int, int, api.Errno) {
	return func(got []int, pairs int, e api.Errno) {
		t.Helper()
		if e != want || pairs != 0 || len(got) != 0 {
			t.Fatalf("got %v, %d, error %d; want error %d and nothing else", got, pairs, e, want)
		}
	}
}

// wantList fails unless Grows or Parts gave just this.
func wantList(t *testing.T, want ...int) func([]int, api.Errno) {
	return func(got []int, e api.Errno) {
		t.Helper()
		if e != api.OK || !slices.Equal(got, want) {
			t.Fatalf("got %v, error %d; want %v", got, e, want)
		}
	}
}

// wantNoList fails unless Grows or Parts gave this error and nothing else.
func wantNoList(t *testing.T, want api.Errno) func([]int, api.Errno) {
	return func(got []int, e api.Errno) {
		t.Helper()
		if e != want || len(got) != 0 {
			t.Fatalf("got %v, error %d; want error %d and nothing else", got, e, want)
		}
	}
}

// wantNumber fails unless Pairs, Odd or Short gave just this.
func wantNumber(t *testing.T, want int, wantE api.Errno) func(int, api.Errno) {
	return func(got int, e api.Errno) {
		t.Helper()
		if got != want || e != wantE {
			t.Fatalf("got %d, error %d; want %d, error %d", got, e, want, wantE)
		}
	}
}

// must returns the list of a call that must not fail.
func must(t *testing.T) func([]int, api.Errno) []int {
	return func(got []int, e api.Errno) []int {
		t.Helper()
		if e != api.OK {
			t.Fatalf("error %d", e)
		}
		return got
	}
}

// dice gives numbers that are always the same ones.
type dice uint64

// next is a number from 0 to n - 1.
func (d *dice) next(n int) int {
	*d = *d*6364136223846793005 + 1442695040888963407
	return int(*d>>33) % n
}

// order is the numbers from 0 to n - 1, shuffled.
func (d *dice) order(n int) []int {
	l := make([]int, n)
	for i := range l {
		j := d.next(i + 1)
		l[i], l[j] = l[j], i
	}
	return l
}

// messy is the same graph: its edges shuffled, some of them the other way round,
// and some of them twice.
func (d *dice) messy(l []api.Edge) []api.Edge {
	var out []api.Edge
	for _, i := range d.order(len(l)) {
		edge := l[i]
		if d.next(2) == 0 {
			edge.A, edge.B = edge.B, edge.A
		}
		out = append(out, edge)
		if d.next(8) == 0 && len(l)+len(out) < maxEdges {
			out = append(out, api.Edge{A: edge.B, B: edge.A})
		}
	}
	return out[:min(len(out), maxEdges)]
}

// renamed is the graph with its n stones in another order.
func (d *dice) renamed(n int, l []api.Edge) []api.Edge {
	names := d.order(n)
	var out []api.Edge
	for _, edge := range l {
		out = append(out, api.Edge{A: names[edge.A], B: names[edge.B]})
	}
	return out
}

// edges is a graph of n stones with up to most edges.
func (d *dice) edges(n, most int) []api.Edge {
	var l []api.Edge
	for range d.next(most + 1) {
		if a, b := d.next(n), d.next(n); a != b {
			l = append(l, api.Edge{A: a, B: b})
		}
	}
	return l
}

// rings is a graph of the stones from lo to hi - 1, an odd number of them: a
// stone, and then rings upon rings, each a way from one stone to another one, or
// back to itself, over an even number of new stones. Whichever of its stones is
// left out, the others can be paired.
func (d *dice) rings(lo, hi int) []api.Edge {
	var l []api.Edge
	for at := lo + 1; at < hi; {
		from, to := lo+d.next(at-lo), lo+d.next(at-lo)
		stones := []int{from}
		for range 2 * (1 + d.next(min(3, (hi-at)/2))) {
			stones = append(stones, at)
			at++
		}
		l = append(l, path(append(stones, to)...)...)
	}
	return l
}

// tangle is a graph of n stones in which groups of rings hang together by a few
// edges and a few stones between them.
func (d *dice) tangle(n int) []api.Edge {
	var l []api.Edge
	for at := 0; at < n; {
		next := min(n, at+1+2*d.next(4))
		next -= (next - at + 1) % 2
		l = append(l, d.rings(at, next)...)
		if at > 0 {
			for range d.next(4) {
				l = append(l, api.Edge{A: d.next(at), B: at + d.next(next-at)})
			}
		}
		at = next
	}
	return d.messy(d.renamed(n, l))
}

// graph is a graph of n stones of one of many kinds.
func (d *dice) graph(n int) []api.Edge {
	if n < 2 {
		return nil
	}
	switch d.next(4) {
	case 0:
		return d.edges(n, n)
	case 1:
		return d.edges(n, min(maxEdges, 4*n))
	case 2:
		return d.messy(d.renamed(n, d.rings(0, n-(n+1)%2)))
	}
	return d.tangle(n)
}
