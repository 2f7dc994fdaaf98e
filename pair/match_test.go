package pair_test

import (
	"slices"
	"testing"

	"kimberlite/api"
	"kimberlite/pair"
)

// flower is a ring of 5 on a stem, in which each stone of the ring has a ring of
// 3 of its own: 17 stones, of which one must be single, but never the stem's 15.
func flower() []api.Edge {
	l := append(ring(0, 1, 2, 3, 4), path(0, 15, 16)...)
	for v := range 5 {
		l = append(l, ring(v, 5+2*v, 6+2*v)...)
	}
	return l
}

// petersen is Petersen's graph: two rings of 5, one of them twisted.
func petersen() []api.Edge {
	l := slices.Concat(ring(0, 1, 2, 3, 4), ring(5, 7, 9, 6, 8))
	return append(l, ed(0, 5, 1, 6, 2, 7, 3, 8, 4, 9)...)
}

// P4.2: plain cases: no stones, one stone, no edges, edges that stand there
// several times; the first mates where these are not the nearest ones.
func TestMatch(t *testing.T) {
	wantMatch(t)(pair.Match(0, nil))
	wantMatch(t)(pair.Match(0, []api.Edge{}))
	wantMatch(t, 1)(pair.Match(1, nil))
	wantMatch(t, 3, 3, 3)(pair.Match(3, nil))
	wantMatch(t, 1, 0)(pair.Match(2, ed(1, 0)))
	wantMatch(t, 1, 0, 3)(pair.Match(3, ed(0, 1, 1, 0, 0, 1, 0, 1)))
	wantMatch(t, 1, 0, 3)(pair.Match(3, ring(0, 1, 2)))
	wantMatch(t, 1, 0, 3, 2)(pair.Match(4, append(ring(0, 1, 2), ed(2, 3)...)))
	wantMatch(t, 1, 0, 4, 4)(pair.Match(4, ed(0, 1, 0, 2, 0, 3)))
	wantMatch(t, 3, 4, 4, 0)(pair.Match(4, ed(3, 0, 3, 1, 3, 2)))
	wantMatch(t, 2, 3, 0, 1)(pair.Match(4, ed(0, 1, 0, 2, 1, 3)))
	wantMatch(t, 3, 2, 1, 0)(pair.Match(4, ed(0, 1, 1, 2, 0, 2, 0, 3)))
	wantMatch(t, 1, 0, 3, 2, 5, 4)(pair.Match(6, ring(5, 4, 3, 2, 1, 0)))
	wantMatch(t, 1, 0, 3, 2)(pair.Match(4, every(0, 4)))
	wantMatch(t, 5, 2, 1, 4, 3, 0)(pair.Match(6, path(0, 5, 2, 1, 4, 3)))
	wantMatch(t, 2, 4, 0, 5, 1, 3, 7)(pair.Match(7, ed(0, 2, 2, 6, 1, 4, 4, 6, 3, 5, 5, 6)))
	// Stone 0 could have 2, and 1 have 5, too.
	wantMatch(t, 1, 0, 5, 4, 3, 2)(pair.Match(6, ed(4, 3, 3, 2, 5, 2, 2, 0, 1, 0, 1, 5)))
	// Stone 2 must leave 3 to 4, which has nothing else.
	wantMatch(t, 1, 0, 5, 4, 3, 2)(pair.Match(6, ed(0, 1, 2, 3, 2, 5, 3, 4)))
	// One of 3 and 4 must be single; it is the second one.
	wantMatch(t, 1, 0, 3, 2, 5)(pair.Match(5, ed(2, 4, 2, 3, 1, 0, 1, 2)))
}

// P4.2: odd rings, rings within rings, and several groups.
func TestMatchRings(t *testing.T) {
	wantMatch(t, 1, 0, 3, 2, 5)(pair.Match(5, ring(0, 1, 2, 3, 4)))
	wantMatch(t, 1, 0, 6, 4, 3, 7, 2)(pair.Match(7, append(ring(0, 1, 2, 3, 4), ed(0, 5, 2, 6)...)))
	wantMatch(t, 1, 0, 3, 2, 5, 4)(pair.Match(6, append(ring(0, 1, 2), append(ring(3, 4, 5), ed(2, 3)...)...)))
	wantMatch(t, 1, 0, 3, 2, 9, 7, 8, 5, 6, 4)(pair.Match(10, petersen()))
	wantMatch(t, 1, 0, 7, 4, 3, 6, 5)(pair.Match(7, append(ring(0, 1, 2), append(ring(3, 4, 5, 6), ed(3, 5)...)...)))
	b := boardOf(17, flower())
	wantMatch(t, b.first()...)(pair.Match(17, flower()))
	if b.most(b.all()) != 8 {
		t.Fatal("the flower must have 8 pairs")
	}
	// A ring of every odd length, with a stem on every stone of it.
	for n := 3; n < maxNodes; n += 2 {
		stones := make([]int, n)
		for v := range stones {
			stones[v] = v
		}
		for v := range stones {
			l := append(ring(stones...), api.Edge{A: n, B: v})
			wantMatch(t, boardOf(n+1, l).first()...)(pair.Match(n+1, l))
			wantNumber(t, 0, api.OK)(pair.Short(n+1, l))
		}
	}
}

// P4.2, P4.4, P4.5: against the chapter's own words, on all graphs of up to 6 stones.
func TestSmallGraphs(t *testing.T) {
	for n := range 7 {
		for l := range graphs(n) {
			b := boardOf(n, l)
			first := b.first()
			wantMatch(t, first...)(pair.Match(n, l))
			wantList(t, b.parts()...)(pair.Parts(n, l))
			wantNumber(t, n-2*pairsOf(first), api.OK)(pair.Short(n, l))
		}
	}
}

// P4.2: that the model takes the first of all lists with the most pairs, too.
func TestFirstOfAll(t *testing.T) {
	for n := range 6 {
		for l := range graphs(n) {
			var best []int
			for _, mates := range boardOf(n, l).mates() {
				if best == nil || pairsOf(mates) > pairsOf(best) ||
					pairsOf(mates) == pairsOf(best) && slices.Compare(mates, best) < 0 {
					best = mates
				}
			}
			wantMatch(t, best...)(pair.Match(n, l))
		}
	}
}

// P4.2, P4.4, P4.5: the same on some graphs of more stones.
func TestSomeGraphs(t *testing.T) {
	d := dice(4)
	try := func(n int) {
		l := d.graph(n)
		b := boardOf(n, l)
		first := b.first()
		wantMatch(t, first...)(pair.Match(n, l))
		wantList(t, b.parts()...)(pair.Parts(n, l))
		wantNumber(t, n-2*pairsOf(first), api.OK)(pair.Short(n, l))
	}
	for range 5000 {
		try(7 + d.next(6))
	}
	for range 1000 {
		try(13 + d.next(6))
	}
	for range 50 {
		try(maxNodes - d.next(4))
	}
}

// P4.2: as many stones and edges as there may be.
func TestMatchFull(t *testing.T) {
	inTwos := make([]int, maxNodes)
	for v := range inTwos {
		inTwos[v] = v ^ 1
	}
	wantMatch(t, inTwos...)(pair.Match(maxNodes, full()))
	wantMatch(t, inTwos...)(pair.Match(maxNodes, slices.Repeat(ed(0, 1, 2, 3, 4, 5, 6, 7, 9, 8, 11, 10, 13, 12, 15, 14, 16, 17, 18, 19, 20, 21, 22, 23), 10)))
	wantMatch(t, slices.Repeat([]int{maxNodes}, maxNodes)...)(pair.Match(maxNodes, nil))
	wantMatch(t, append([]int{23}, append(slices.Repeat([]int{24}, 22), 0)...)...)(pair.Match(maxNodes, slices.Repeat(ed(23, 0), maxEdges)))
	// Twelve stones that have eleven neighbours each among the other twelve; as
	// many as there may be with 128 edges.
	var l []api.Edge
	for a := range 12 {
		for b := range 12 {
			if a != b && len(l) < maxEdges {
				l = append(l, api.Edge{A: 12 + b, B: a})
			}
		}
	}
	wantMatch(t, boardOf(maxNodes, l).first()...)(pair.Match(maxNodes, l))
}

// P4.3: Pairs of all mates of all graphs of up to 5 stones; and Grows, which adds
// one pair and leaves no other stone single, exactly if there can be one.
func TestPairsAndGrows(t *testing.T) {
	for n := range 6 {
		for l := range graphs(n) {
			b := boardOf(n, l)
			for _, mates := range b.mates() {
				wantNumber(t, pairsOf(mates), api.OK)(pair.Pairs(n, l, mates))
				wantGrown(t, b, mates)(pair.Grows(n, l, mates))
			}
		}
	}
}

// wantGrown fails unless Grows did with mates what P4.3 says; it returns the result.
func wantGrown(t *testing.T, b *board, mates []int) func([]int, api.Errno) []int {
	return func(got []int, e api.Errno) []int {
		t.Helper()
		if pairsOf(mates) == b.most(b.all()) {
			wantList(t)(got, e)
			return nil
		}
		if e != api.OK || !b.areMates(got) || pairsOf(got) != pairsOf(mates)+1 {
			t.Fatalf("%v grows to %v, error %d", mates, got, e)
		}
		for v, w := range mates {
			if w != len(mates) && got[v] == len(mates) {
				t.Fatalf("%v grows to %v, which leaves %d single", mates, got, v)
			}
		}
		return got
	}
}

// P4.3: where only one list can be meant, and one more.
func TestGrows(t *testing.T) {
	wantList(t)(pair.Grows(0, nil, nil))
	wantList(t)(pair.Grows(1, nil, []int{1}))
	wantList(t)(pair.Grows(2, nil, []int{2, 2}))
	wantList(t, 1, 0)(pair.Grows(2, ed(0, 1), []int{2, 2}))
	wantList(t)(pair.Grows(2, ed(0, 1), []int{1, 0}))
	wantList(t, 1, 0, 3, 2)(pair.Grows(4, path(0, 1, 2, 3), []int{4, 2, 1, 4}))
	wantList(t)(pair.Grows(3, ring(0, 1, 2), []int{3, 2, 1}))
	wantList(t, 1, 0, 3, 2)(pair.Grows(4, append(ring(0, 1, 2), ed(2, 3)...), []int{2, 4, 0, 4}))
	wantList(t, 1, 0, 3, 2, 5, 4)(pair.Grows(6, slices.Concat(ring(0, 1, 2), ring(3, 4, 5), ed(2, 3)), []int{6, 2, 1, 4, 3, 6}))
	// One way through a ring of 5, with a ring of 3 on it.
	l := slices.Concat(ed(0, 1), ring(1, 2, 3, 4, 5), ring(4, 6, 7), ed(7, 8, 8, 9))
	wantGrown(t, boardOf(10, l), []int{10, 2, 1, 4, 3, 10, 7, 6, 9, 8})(pair.Grows(10, l, []int{10, 2, 1, 4, 3, 10, 7, 6, 9, 8}))
	long := make([]int, maxNodes)
	for v := range long {
		long[v] = v
	}
	mates, want := []int{maxNodes}, []int{}
	for v := 1; v < maxNodes-1; v++ {
		mates = append(mates, (v-1)^1+1)
	}
	for v := range maxNodes {
		want = append(want, v^1)
	}
	wantList(t, want...)(pair.Grows(maxNodes, path(long...), append(mates, maxNodes)))
}

// P4.3: mates of graphs of up to 24 stones, of pairs taken as they come; they grow
// until they cannot.
func TestGrowsAgain(t *testing.T) {
	d := dice(5)
	for i := range 3000 {
		n := d.next(15)
		if i%500 == 0 {
			n = maxNodes
		}
		l := d.graph(n)
		b := boardOf(n, l)
		mates := slices.Repeat([]int{n}, n)
		for _, j := range d.order(len(l)) {
			if d.next(3) > 0 && mates[l[j].A] == n && mates[l[j].B] == n {
				mates[l[j].A], mates[l[j].B] = l[j].B, l[j].A
			}
		}
		for mates != nil {
			wantNumber(t, pairsOf(mates), api.OK)(pair.Pairs(n, l, mates))
			mates = wantGrown(t, b, mates)(pair.Grows(n, l, mates))
		}
	}
}

// P4.3: lists that are no mates: all lists of numbers from -1 to n + 1, for all
// graphs of up to 3 stones and some of 4.
func TestNoMates(t *testing.T) {
	for n := range 5 {
		skip := 0
		for l := range graphs(n) {
			if skip++; n == 4 && skip%4 != 0 {
				continue
			}
			b := boardOf(n, l)
			tryLists(n, func(list []int) {
				if b.areMates(list) {
					wantNumber(t, pairsOf(list), api.OK)(pair.Pairs(n, l, list))
					return
				}
				wantNumber(t, 0, api.ErrArg)(pair.Pairs(n, l, list))
				wantNoList(t, api.ErrArg)(pair.Grows(n, l, list))
			})
		}
	}
}

// tryLists calls try with all lists of n numbers from -1 to n + 1.
func tryLists(n int, try func([]int)) {
	list := slices.Repeat([]int{-1}, n)
	for {
		try(list)
		i := 0
		for i < n && list[i] == n+1 {
			list[i] = -1
			i++
		}
		if i == n {
			return
		}
		list[i]++
	}
}

// P4.3: lists that are no mates, of another length, with numbers far away, or one
// thing wrong.
func TestNoMatesFar(t *testing.T) {
	l := ring(0, 1, 2, 3, 4)
	good := []int{1, 0, 3, 2, 5}
	wantNumber(t, 2, api.OK)(pair.Pairs(5, l, good))
	bad := func(mates ...int) {
		t.Helper()
		wantNumber(t, 0, api.ErrArg)(pair.Pairs(5, l, mates))
		wantNoList(t, api.ErrArg)(pair.Grows(5, l, mates))
	}
	bad()
	bad(1, 0, 3, 2)
	bad(1, 0, 3, 2, 5, 5)
	bad(1, 0, 3, 2, 5, 6)
	bad(5, 5, 5, 5)
	bad(2, 5, 0, 5, 5)
	bad(1, 2, 0, 5, 5)
	bad(1, 2, 3, 4, 0)
	bad(1, 5, 5, 5, 5)
	bad(5, 0, 5, 5, 5)
	bad(0, 5, 5, 5, 5)
	bad(5, 5, 5, 5, 4)
	for i := range good {
		for _, m := range []int{-1, 6, 24, 32, 64, minInt, minInt + 1, maxInt, maxInt - 1, 1 << 32, -1 << 32} {
			mates := slices.Clone(good)
			mates[i] = m
			bad(mates...)
		}
	}
	for _, mates := range [][]int{{0}, {-1}, {2}, {1, 1}, {}, {minInt}, {maxInt}} {
		wantNumber(t, 0, api.ErrArg)(pair.Pairs(1, nil, mates))
		wantNoList(t, api.ErrArg)(pair.Grows(1, nil, mates))
	}
	wantNumber(t, 0, api.ErrArg)(pair.Pairs(0, nil, []int{0}))
	wantNoList(t, api.ErrArg)(pair.Grows(0, nil, []int{0}))
	wantNumber(t, 0, api.OK)(pair.Pairs(0, nil, []int{}))
}
