package pair_test

import (
	"slices"
	"testing"

	"kimberlite/api"
	"kimberlite/pair"
)

// Rules 1, 2, 4 and 5 of DOC.md, P1 and P2: what holds for all functions of the package.

// calls are all functions with a graph, with all that they return in numbers, the
// error last, and the list in which they return numbers. Those with a list of
// stones take list for it.
func calls() map[string]func(n int, edges []api.Edge, list []int) (numbers, out []int) {
	return map[string]func(n int, edges []api.Edge, list []int) ([]int, []int){
		"Match": func(n int, edges []api.Edge, _ []int) ([]int, []int) {
			mates, pairs, e := pair.Match(n, edges)
			return append(slices.Clone(mates), pairs, int(e)), mates
		},
		"Pairs": func(n int, edges []api.Edge, list []int) ([]int, []int) {
			pairs, e := pair.Pairs(n, edges, list)
			return []int{pairs, int(e)}, nil
		},
		"Grows": func(n int, edges []api.Edge, list []int) ([]int, []int) {
			mates, e := pair.Grows(n, edges, list)
			return append(slices.Clone(mates), 0, int(e)), mates
		},
		"Parts": func(n int, edges []api.Edge, _ []int) ([]int, []int) {
			parts, e := pair.Parts(n, edges)
			return append(slices.Clone(parts), 0, int(e)), parts
		},
		"Odd": func(n int, edges []api.Edge, list []int) ([]int, []int) {
			odd, e := pair.Odd(n, edges, list)
			return []int{odd, int(e)}, nil
		},
		"Short": func(n int, edges []api.Edge, _ []int) ([]int, []int) {
			short, e := pair.Short(n, edges)
			return []int{short, int(e)}, nil
		},
	}
}

// wantError fails unless each function gave this error and nothing else.
func wantError(t *testing.T, want api.Errno, n int, edges []api.Edge) {
	t.Helper()
	for _, list := range [][]int{nil, {0}, {minInt, maxInt}, make([]int, 25), slices.Repeat([]int{n}, max(0, min(n, 25)))} {
		for name, call := range calls() {
			if got, _ := call(n, edges, list); !slices.Equal(got, []int{0, int(want)}) {
				t.Fatalf("%s of %d, %d edges: %v; want error %d and nothing else", name, n, len(edges), got, want)
			}
		}
	}
}

// wantGraph fails if any function returned an error.
func wantGraph(t *testing.T, n int, edges []api.Edge) {
	t.Helper()
	for name, call := range calls() {
		list := slices.Repeat([]int{n}, n)
		if name == "Odd" {
			list = nil
		}
		if got, _ := call(n, edges, list); got[len(got)-1] != int(api.OK) {
			t.Fatalf("%s of %d, %v: %v", name, n, edges, got)
		}
	}
}

// Rules 1 and 2: a graph that is not valid: n first, then how many edges there
// are, then the edges; and all of it before what is wrong with a list.
func TestGraphErrors(t *testing.T) {
	tooMany := slices.Repeat(ed(0, 1), maxEdges+1)
	for n := range maxNodes + 1 {
		wantGraph(t, n, nil)
		wantError(t, api.ErrLimit, n, tooMany)
		wantError(t, api.ErrLimit, n, slices.Repeat(ed(0, 0), maxEdges+1))
		wantError(t, api.ErrLimit, n, append(full(), ed(minInt, maxInt)...))
		if n > 1 {
			wantGraph(t, n, tooMany[1:])
			wantGraph(t, n, ed(0, n-1, n-1, 0))
		}
	}
	wantGraph(t, maxNodes, full())
	wantError(t, api.ErrArg, maxNodes-1, full())
	for _, n := range []int{-1, maxNodes + 1, minInt, minInt + 1, maxInt, 1 << 32, -1 << 32, 1<<32 + 3} {
		wantError(t, api.ErrArg, n, nil)
		wantError(t, api.ErrArg, n, ed(0, 1))
		wantError(t, api.ErrArg, n, tooMany)
		wantError(t, api.ErrArg, n, slices.Repeat(ed(n, n), maxEdges+1))
	}
}

// Rules 1 and 5: edges that are not valid, alone and at any place among others.
func TestEdgeErrors(t *testing.T) {
	for n := range maxNodes + 1 {
		for _, v := range []int{-1, n, n + 1, maxNodes, minInt, maxInt, 1 << 32, -1 << 32} {
			for _, other := range []int{0, n - 1, v, -1, maxInt} {
				wantError(t, api.ErrArg, n, ed(v, other))
				wantError(t, api.ErrArg, n, ed(other, v))
			}
		}
		for v := range n {
			wantError(t, api.ErrArg, n, ed(v, v))
		}
	}
	for i := range maxEdges {
		for _, bad := range ed(5, 5, 0, 24, 24, 0, -1, 3, 3, minInt, maxInt, 3) {
			l := full()
			l[i] = bad
			wantError(t, api.ErrArg, maxNodes, l)
			wantError(t, api.ErrArg, maxNodes, l[:i+1])
		}
	}
}

// roomy is a copy of l with room behind its end, and all of it.
func roomy[T any](l []T, more T) (part, all []T) {
	all = append(slices.Clone(l), slices.Repeat([]T{more}, 200)...)
	return all[:len(l)], all
}

// wipe overwrites a result, and what is behind its end.
func wipe[T any](l []T, with T) {
	l = l[:cap(l)]
	for i := range l {
		l[i] = with
	}
}

// Rule 4, P2: arguments stay as they are, up to their capacity; results are new
// memory; and the same call has the same result.
func TestMemory(t *testing.T) {
	d := dice(11)
	try := func(n int, edges []api.Edge, list []int) {
		t.Helper()
		edges, allEdges := roomy(edges, api.Edge{A: 0, B: 1})
		list, all := roomy(list, 1)
		wasEdges, was := slices.Clone(allEdges), slices.Clone(all)
		for name, call := range calls() {
			first, out := call(n, edges, list)
			wipe(out, -77)
			second, kept := call(n, edges, list)
			if !slices.Equal(first, second) {
				t.Fatalf("%s of %d, %v, %v: first %v, then %v", name, n, edges, list, first, second)
			}
			if !slices.Equal(allEdges, wasEdges) || !slices.Equal(all, was) {
				t.Fatalf("%s of %d, %v, %v changes them, or shares memory with them", name, n, edges, list)
			}
			// What is done to the arguments later shows in no result.
			keptWas := slices.Clone(kept)
			wipe(allEdges, api.Edge{A: -77, B: -77})
			wipe(all, -77)
			if !slices.Equal(kept, keptWas) {
				t.Fatalf("%s shares memory with its arguments", name)
			}
			copy(allEdges, wasEdges)
			copy(all, was)
		}
	}
	try(0, nil, nil)
	try(1, nil, []int{1})
	try(2, ed(0, 1), []int{1, 0})
	try(2, ed(0, 0), []int{1, 0})
	try(maxNodes, full(), []int{0, 1, 2, 23})
	for range 1000 {
		n := d.next(maxNodes + 1)
		l := d.graph(n)
		try(n, l, slices.Repeat([]int{n}, n))
		try(n, l, members(uint(d.next(1<<n))))
		try(n, l, d.order(n))
	}
}

// Rule 4, P2: the same for Edges.
func TestEdgesMemory(t *testing.T) {
	d := dice(12)
	for range 500 {
		l := make([]api.Stone, d.next(maxNodes+2))
		for i := range l {
			l[i] = api.Stone{Size: d.next(5), Grade: api.Grade{d.next(3), d.next(3), d.next(3)}}
		}
		part, all := roomy(l, api.Stone{})
		was := slices.Clone(all)
		first, e := pair.Edges(part, 2, api.Grade{1, 1, 1})
		kept := slices.Clone(first)
		wipe(first, api.Edge{A: -77, B: -77})
		second, e2 := pair.Edges(part, 2, api.Grade{1, 1, 1})
		if e != e2 || !slices.Equal(kept, second) || !slices.Equal(all, was) {
			t.Fatalf("%v: first %v, error %d, then %v, error %d", l, kept, e, second, e2)
		}
	}
}

// P1: every function ends, and none panics, on lists that are far too long.
func TestHugeLists(t *testing.T) {
	for _, v := range []int{0, 1, minInt, maxInt} {
		wantError(t, api.ErrLimit, 2, slices.Repeat(ed(v, 1), 1<<18))
		wantNoEdges(t, api.ErrLimit)(pair.Edges(slices.Repeat(st(v, v, v, v), 1<<18), v, api.Grade{v, v, v}))
		list := slices.Repeat([]int{v}, 1<<20)
		wantNumber(t, 0, api.ErrArg)(pair.Pairs(2, ed(0, 1), list))
		wantNoList(t, api.ErrArg)(pair.Grows(2, ed(0, 1), list))
		wantNumber(t, 0, api.ErrArg)(pair.Odd(2, ed(0, 1), list))
	}
}
