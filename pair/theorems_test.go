package pair_test

import (
	"math/bits"
	"slices"
	"testing"

	"kimberlite/api"
	"kimberlite/pair"
)

// solved is what the package says of a graph.
type solved struct {
	n     int
	edges []api.Edge
	mates []int
	pairs int
	parts []int
	short int
}

// solve asks the package for all of it, none of which may fail.
func solve(t *testing.T, n int, edges []api.Edge) solved {
	t.Helper()
	mates, pairs, e := pair.Match(n, edges)
	parts, e2 := pair.Parts(n, edges)
	short, e3 := pair.Short(n, edges)
	if e != api.OK || e2 != api.OK || e3 != api.OK || !boardOf(n, edges).areMates(mates) {
		t.Fatalf("%v: %v, errors %d, %d and %d", edges, mates, e, e2, e3)
	}
	if pairsOf(mates) != pairs || n-2*pairs != short {
		t.Fatalf("%v: %v, %d pairs, short %d", edges, mates, pairs, short)
	}
	return solved{n, edges, mates, pairs, parts, short}
}

// wantBarrier fails unless without a set of stones, Odd less its number is at most
// Short: just Short if tight.
func (s solved) wantBarrier(t *testing.T, set uint, tight bool) {
	t.Helper()
	odd, e := pair.Odd(s.n, s.edges, members(set))
	over := odd - bits.OnesCount(set)
	if e != api.OK || over > s.short || tight && over != s.short {
		t.Fatalf("%v: without %b %d groups are odd, error %d; short %d", s.edges, set, odd, e, s.short)
	}
}

// P4.6: every set of stones, and the set for which Parts says 1. As both sides
// are equal for that one, there can be no more pairs than Match says.
func TestTutteBerge(t *testing.T) {
	for n := range 6 {
		for l := range graphs(n) {
			s := solve(t, n, l)
			for set := range uint(1) << n {
				s.wantBarrier(t, set, false)
			}
			s.wantBarrier(t, partIs(s.parts, 1), true)
		}
	}
	d := dice(7)
	for range 4000 {
		n := d.next(maxNodes + 1)
		s := solve(t, n, d.graph(n))
		ones := partIs(s.parts, 1)
		s.wantBarrier(t, ones, true)
		for range 10 {
			s.wantBarrier(t, uint(d.next(1<<n)), false)
			s.wantBarrier(t, uint(d.next(1<<n)&d.next(1<<n)), false)
			if n > 0 {
				s.wantBarrier(t, ones^1<<d.next(n), false)
			}
		}
	}
}

// wantGallaiEdmonds fails unless mates with as many pairs as possible are as P4.7
// says.
func (s solved) wantGallaiEdmonds(t *testing.T, mates []int) {
	t.Helper()
	for v, w := range mates {
		part := s.parts[v]
		if part > 0 && w == s.n || part == 1 && s.parts[w] != 0 || part == 2 && s.parts[w] != 2 {
			t.Fatalf("%v, parts %v: in %v stone %d has %d", s.edges, s.parts, mates, v, w)
		}
	}
	b := boardOf(s.n, s.edges)
	zeros := partIs(s.parts, 0)
	for left := zeros; left != 0; {
		group := left & -left
		for was := uint(0); was != group; {
			was = group
			for _, v := range members(group) {
				group |= b.near[v] & zeros
			}
		}
		left &^= group
		without := 0
		for _, v := range members(group) {
			if mates[v] == s.n || group>>mates[v]&1 == 0 {
				without++
			}
		}
		if without != 1 {
			t.Fatalf("%v, parts %v: in %v the group %b has %d without a mate in it", s.edges, s.parts, mates, group, without)
		}
	}
}

// P4.7, P4.8: all mates of all graphs of up to 5 stones: none has more pairs than
// Match, and those that have as many are as P4.7 says.
func TestAllMates(t *testing.T) {
	for n := range 6 {
		for l := range graphs(n) {
			s := solve(t, n, l)
			for _, mates := range boardOf(n, l).mates() {
				if pairsOf(mates) > s.pairs {
					t.Fatalf("%v: %v has more pairs than %v", l, mates, s.mates)
				}
				if pairsOf(mates) == s.pairs {
					s.wantGallaiEdmonds(t, mates)
					wantList(t)(pair.Grows(n, l, mates))
				}
				s.wantAsMany(t, mates)
			}
		}
	}
}

// wantAsMany fails unless mates grow, again and again, to as many pairs as Match
// says; it returns these.
func (s solved) wantAsMany(t *testing.T, mates []int) []int {
	t.Helper()
	for range s.pairs - pairsOf(mates) {
		mates = must(t)(pair.Grows(s.n, s.edges, mates))
		if len(mates) != s.n {
			t.Fatalf("%v: it has stopped to grow", s.edges)
		}
	}
	wantList(t)(pair.Grows(s.n, s.edges, mates))
	if pairsOf(mates) != s.pairs {
		t.Fatalf("%v grew to %v, Match is %v", s.edges, mates, s.mates)
	}
	return mates
}

// P4.7, P4.8: the same of more stones, for Match's mates and for others that grow.
func TestMatesOfMoreStones(t *testing.T) {
	d := dice(8)
	for range 4000 {
		n := d.next(maxNodes + 1)
		s := solve(t, n, d.graph(n))
		s.wantGallaiEdmonds(t, s.mates)
		wantList(t)(pair.Grows(n, s.edges, s.mates))
		for range 3 {
			// Some of Match's pairs, or none, and then in another order.
			mates := slices.Repeat([]int{n}, n)
			few := d.next(3)
			for _, v := range d.order(n) {
				if w := s.mates[v]; w < v && d.next(2) < few {
					mates[v], mates[w] = w, v
				}
			}
			for _, i := range d.order(len(s.edges)) {
				edge := s.edges[i]
				if d.next(3) == 0 && mates[edge.A] == n && mates[edge.B] == n {
					mates[edge.A], mates[edge.B] = edge.B, edge.A
				}
			}
			s.wantGallaiEdmonds(t, s.wantAsMany(t, mates))
		}
	}
}

// P4.9: one edge more, and one stone more with any edges.
func TestOneMore(t *testing.T) {
	check := func(s, more solved) {
		t.Helper()
		if more.pairs != s.pairs && more.pairs != s.pairs+1 {
			t.Fatalf("%v has %d pairs, %v has %d", s.edges, s.pairs, more.edges, more.pairs)
		}
	}
	for n := range 6 {
		for l := range graphs(n) {
			s := solve(t, n, l)
			for _, edge := range every(0, n) {
				check(s, solve(t, n, append(slices.Clone(l), edge)))
			}
			if n < 5 {
				for set := range uint(1) << n {
					more := slices.Clone(l)
					for _, v := range members(set) {
						more = append(more, api.Edge{A: n, B: v})
					}
					check(s, solve(t, n+1, more))
				}
			}
		}
	}
	d := dice(9)
	for range 2000 {
		n := 2 + d.next(maxNodes-2)
		s := solve(t, n, d.graph(n))
		if a, b := d.next(n), d.next(n); a != b && len(s.edges) < maxEdges {
			check(s, solve(t, n, append(slices.Clone(s.edges), api.Edge{A: a, B: b})))
		}
		more := slices.Clone(s.edges)
		for range d.next(n) {
			more = append(more, api.Edge{A: d.next(n), B: n})
		}
		check(s, solve(t, n+1, more[:min(len(more), maxEdges)]))
	}
}

// P4.2, P4.6: rings upon rings, of which any one stone can be single and one must
// be; with a stem on any of its stones none must be.
func TestRings(t *testing.T) {
	d := dice(10)
	for range 3000 {
		n := 1 + 2*d.next(maxNodes/2)
		l := d.rings(0, n)
		s := solve(t, n, d.messy(l))
		if s.short != 1 || partIs(s.parts, 0) != 1<<n-1 {
			t.Fatalf("%v: short %d, parts %v", s.edges, s.short, s.parts)
		}
		l = d.renamed(n+1, append(l, api.Edge{A: d.next(n), B: n}))
		s = solve(t, n+1, d.messy(l))
		if s.short != 0 || partIs(s.parts, 2) != 1<<(n+1)-1 {
			t.Fatalf("%v: short %d, parts %v", s.edges, s.short, s.parts)
		}
	}
}
