package pair_test

import (
	"math/bits"
	"slices"
	"testing"

	"kimberlite/api"
	"kimberlite/pair"
)

// P4.5: Odd without every set of stones, of all graphs of up to 5 stones.
func TestOddSmall(t *testing.T) {
	for n := range 6 {
		for l := range graphs(n) {
			b := boardOf(n, l)
			for set := range b.all() + 1 {
				wantNumber(t, b.odd(b.all()&^set), api.OK)(pair.Odd(n, l, members(set)))
			}
		}
	}
}

// P4.5: Odd of more stones; and of several groups.
func TestOdd(t *testing.T) {
	wantNumber(t, 0, api.OK)(pair.Odd(0, nil, nil))
	wantNumber(t, 1, api.OK)(pair.Odd(1, nil, nil))
	wantNumber(t, 0, api.OK)(pair.Odd(1, nil, []int{0}))
	wantNumber(t, 3, api.OK)(pair.Odd(4, ed(0, 1, 0, 2, 0, 3), []int{0}))
	wantNumber(t, 0, api.OK)(pair.Odd(4, ed(0, 1, 0, 2, 0, 3), nil))
	wantNumber(t, 1, api.OK)(pair.Odd(4, ed(0, 1, 0, 2, 0, 3), []int{3}))
	wantNumber(t, 24, api.OK)(pair.Odd(maxNodes, nil, nil))
	wantNumber(t, 0, api.OK)(pair.Odd(maxNodes, full(), []int{}))
	wantNumber(t, 4, api.OK)(pair.Odd(maxNodes, full(), []int{0, 16, 21, 23}))
	var all []int
	for v := range maxNodes {
		all = append(all, v)
	}
	wantNumber(t, 0, api.OK)(pair.Odd(maxNodes, full(), all))
	wantNumber(t, 0, api.OK)(pair.Odd(maxNodes, path(all...), nil))
	wantNumber(t, 2, api.OK)(pair.Odd(maxNodes, path(all...), []int{5, 17})) // 5, 11 and 6 stones
	d := dice(6)
	for range 20000 {
		n := 1 + d.next(maxNodes)
		l := d.graph(n)
		b := boardOf(n, l)
		set := uint(d.next(1<<n)) & uint(d.next(1<<n))
		wantNumber(t, b.odd(b.all()&^set), api.OK)(pair.Odd(n, l, members(set)))
	}
}

// P4.5: stones to be taken away that are not ascending, or none of the graph.
func TestOddErrors(t *testing.T) {
	for n := range 5 {
		tryLists(n, func(list []int) {
			want := api.OK
			for i, v := range list {
				if v < 0 || v >= n || i > 0 && v <= list[i-1] {
					want = api.ErrArg
				}
			}
			odd := 0
			if want == api.OK {
				odd = n - bits.OnesCount(setOf(list))
			}
			wantNumber(t, odd, want)(pair.Odd(n, nil, list))
		})
	}
	bad := func(without ...int) {
		t.Helper()
		wantNumber(t, 0, api.ErrArg)(pair.Odd(5, ring(0, 1, 2, 3, 4), without))
	}
	for _, v := range []int{-1, 5, 6, 24, 64, minInt, maxInt, 1 << 32, -1 << 32} {
		bad(v)
		bad(0, v)
		bad(v, 4)
		bad(0, 1, 2, v)
	}
	bad(0, 0)
	bad(4, 4)
	bad(1, 0)
	bad(0, 1, 2, 4, 3)
	bad(0, 1, 2, 3, 3)
	bad(0, 1, 2, 3, 4, 4)
	bad(0, 1, 2, 3, 4, 5)
	bad(0, 1, 2, 3, 4, 0)
	wantNumber(t, 0, api.ErrArg)(pair.Odd(0, nil, []int{0}))
	wantNumber(t, 0, api.OK)(pair.Odd(0, nil, []int{}))
}

// P4.4, P4.5: plain cases.
func TestPartsAndShort(t *testing.T) {
	check := func(n int, l []api.Edge, short int, parts ...int) {
		t.Helper()
		wantList(t, parts...)(pair.Parts(n, l))
		wantNumber(t, short, api.OK)(pair.Short(n, l))
	}
	check(0, nil, 0)
	check(1, nil, 1, 0)
	check(3, nil, 3, 0, 0, 0)
	check(2, ed(1, 0), 0, 2, 2)
	check(3, ring(0, 1, 2), 1, 0, 0, 0)
	check(4, append(ring(0, 1, 2), ed(2, 3)...), 0, 2, 2, 2, 2)
	check(4, ed(0, 1, 0, 2, 0, 3), 2, 1, 0, 0, 0)
	check(3, path(0, 1, 2), 1, 0, 1, 0)
	check(5, path(0, 1, 2, 3, 4), 1, 0, 1, 0, 1, 0)
	check(7, append(ring(0, 1, 2, 3, 4), ed(0, 5, 2, 6)...), 1, 1, 0, 1, 2, 2, 0, 0)
	check(9, slices.Concat(ring(0, 1, 2), ring(3, 4, 5), ed(6, 0, 6, 3, 6, 7)), 3, 0, 0, 0, 0, 0, 0, 1, 0, 0)
	check(17, flower(), 1, 0, 0, 0, 0, 0, 0, 0, 0, 0, 0, 0, 0, 0, 0, 0, 1, 0)
	check(15, slices.DeleteFunc(flower(), func(d api.Edge) bool { return d.B >= 15 }), 1, make([]int, 15)...)
	check(maxNodes, full(), 0, slices.Repeat([]int{2}, maxNodes)...)
	check(maxNodes, nil, maxNodes, make([]int, maxNodes)...)
	check(maxNodes, slices.Repeat(ed(0, 23), maxEdges), maxNodes-2, append([]int{2}, append(make([]int, maxNodes-2), 2)...)...)
}
