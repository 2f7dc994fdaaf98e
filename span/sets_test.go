package span_test

import (
	"math/bits"
	"slices"
	"testing"

	"kimberlite/api"
	"kimberlite/span"
)

// P1.1: Valid.
func TestValid(t *testing.T) {
	sets := [][]api.Span{
		nil,
		{},
		sp(0, 1),
		sp(-bound, bound),
		sp(-bound, -bound+1, bound-1, bound),
		sp(1, 3, 4, 5),
		comb(api.MaxSpans, -bound, 1, 2),
	}
	for _, s := range sets {
		if !span.Valid(s) {
			t.Errorf("%v is a set", s)
		}
	}
	for name, s := range notSets() {
		if span.Valid(s) {
			t.Errorf("%s: %v is no set", name, s)
		}
	}
}

// P1.1: Of, of spans that overlap, touch, stand twice, and in any order.
func TestOf(t *testing.T) {
	for _, c := range []struct{ l, want []api.Span }{
		{nil, nil},
		{sp(5, 9, 1, 3, 3, 5), sp(1, 9)},
		{sp(1, 3, 3, 5), sp(1, 5)},
		{sp(1, 3, 1, 3), sp(1, 3)},
		{sp(1, 4, 2, 6), sp(1, 6)},
		{sp(1, 9, 2, 3), sp(1, 9)},
		{sp(2, 3, 1, 9, 4, 5), sp(1, 9)},
		{sp(5, 7, 1, 3), sp(1, 3, 5, 7)},
		{sp(4, 5, 1, 3), sp(1, 3, 4, 5)},
		{sp(0, bound, -bound, 0), sp(-bound, bound)},
		{sp(bound-1, bound, -bound, -bound+1), sp(-bound, -bound+1, bound-1, bound)},
	} {
		wantSet(t, c.want)(span.Of(c.l))
	}
	smallLists(4, 4, func(l []api.Span) {
		wantSet(t, listed(0, 4, false, func(x int) bool {
			return slices.ContainsFunc(l, func(s api.Span) bool { return within(s, x) })
		}))(span.Of(l))
	})
}

// P1.1: the errors of Of; 128 spans are allowed, 129 are not.
func TestOfErrors(t *testing.T) {
	full := comb(api.MaxSpans, 0, 1, 2)
	slices.Reverse(full)
	wantSet(t, comb(api.MaxSpans, 0, 1, 2))(span.Of(full))
	wantSet(t, sp(0, 1))(span.Of(comb(api.MaxSpans, 0, 1, 0)))
	wantNoSet(t, api.ErrLimit)(span.Of(comb(api.MaxSpans+1, 0, 1, 0)))
	wantNoSet(t, api.ErrLimit)(span.Of(make([]api.Span, api.MaxSpans+1)))
	for _, bad := range notValid() {
		wantNoSet(t, api.ErrArg)(span.Of([]api.Span{bad}))
		wantNoSet(t, api.ErrArg)(span.Of([]api.Span{{Lo: 1, Hi: 2}, bad}))
		wantNoSet(t, api.ErrArg)(span.Of(append(comb(api.MaxSpans-1, 0, 1, 2), bad)))
	}
}

// operation is a function of two sets, and which numbers it wants.
type operation struct {
	name string
	call func(a, b []api.Span) ([]api.Span, api.Errno)
	want func(inA, inB bool) bool
}

func operations() []operation {
	return []operation{
		{"Union", span.Union, func(inA, inB bool) bool { return inA || inB }},
		{"Intersect", span.Intersect, func(inA, inB bool) bool { return inA && inB }},
		{"Subtract", span.Subtract, func(inA, inB bool) bool { return inA && !inB }},
	}
}

// P1.1: Union, Intersect, Subtract and Not of all sets in a window, against a
// model of single numbers, also where all numbers outside are in a set.
func TestOperations(t *testing.T) {
	for _, base := range bases() {
		for i := range 2 << window {
			a, hasA := masked(base, i>>1, i&1 == 1), member(base, i>>1, i&1 == 1)
			wantSet(t, listed(base, base+window, i&1 == 0, func(x int) bool { return !hasA(x) }))(span.Not(a))
			for j := range 2 << window {
				b, hasB := masked(base, j>>1, j&1 == 1), member(base, j>>1, j&1 == 1)
				for _, op := range operations() {
					outside := op.want(i&1 == 1, j&1 == 1)
					want := listed(base, base+window, outside, func(x int) bool { return op.want(hasA(x), hasB(x)) })
					wantSet(t, want)(op.call(a, b))
				}
			}
		}
	}
}

// P1.1: some sets by hand.
func TestOperationExamples(t *testing.T) {
	a, b, whole := sp(1, 3, 5, 7), sp(2, 4, 6, 9), sp(-bound, bound)
	wantSet(t, sp(1, 4, 5, 9))(span.Union(a, b))
	wantSet(t, sp(2, 3, 6, 7))(span.Intersect(a, b))
	wantSet(t, sp(1, 2, 5, 6))(span.Subtract(a, b))
	wantSet(t, sp(3, 4, 7, 9))(span.Subtract(b, a))
	wantSet(t, sp(1, 5))(span.Union(sp(1, 3), sp(3, 5)))
	wantSet(t, nil)(span.Intersect(sp(1, 3), sp(3, 5)))
	wantSet(t, sp(-bound, 1, 9, bound))(span.Not(sp(1, 9)))
	wantSet(t, whole)(span.Not(nil))
	wantSet(t, nil)(span.Not(whole))
	wantSet(t, nil)(span.Union(nil, nil))
	wantSet(t, whole)(span.Union(whole, a))
	wantSet(t, a)(span.Intersect(whole, a))
	wantSet(t, nil)(span.Subtract(a, whole))
	wantSet(t, sp(-bound, 1, 3, 5, 7, bound))(span.Subtract(whole, a))
}

// P1.1: a result of 128 spans is given, one of 129 is ErrFull.
func TestFull(t *testing.T) {
	half := api.MaxSpans / 2
	left, right := comb(half, 0, 1, 2), comb(half, 1000, 1, 2)
	wantSet(t, append(slices.Clone(left), right...))(span.Union(left, right))
	wantNoSet(t, api.ErrFull)(span.Union(left, comb(half+1, 1000, 1, 2)))
	wantNoSet(t, api.ErrFull)(span.Union(comb(api.MaxSpans, 0, 1, 2), sp(-5, -4)))
	wantSet(t, sp(0, 2*api.MaxSpans))(span.Union(comb(api.MaxSpans, 0, 1, 2), comb(api.MaxSpans, 1, 1, 2)))

	wide := comb(half+1, 0, 3, 4)
	wantSet(t, comb(api.MaxSpans, 2, 1, 2))(span.Intersect(wide, comb(half, 2, 3, 4)))
	wantNoSet(t, api.ErrFull)(span.Intersect(wide, comb(half+1, 2, 3, 4)))

	whole, teeth := sp(-bound, bound), comb(api.MaxSpans, 0, 1, 2)
	for _, not := range []func([]api.Span) ([]api.Span, api.Errno){
		span.Not,
		func(a []api.Span) ([]api.Span, api.Errno) { return span.Subtract(whole, a) },
	} {
		wantNoSet(t, api.ErrFull)(not(teeth))
		if got := set(t)(not(teeth[1:])); len(got) != api.MaxSpans {
			t.Errorf("%d spans", len(got))
		}
		if got := set(t)(not(comb(api.MaxSpans, -bound, 1, 2))); len(got) != api.MaxSpans {
			t.Errorf("%d spans", len(got))
		}
		if got := set(t)(not(comb(api.MaxSpans, bound-2*api.MaxSpans+1, 1, 2))); len(got) != api.MaxSpans {
			t.Errorf("%d spans", len(got))
		}
	}
}

// P1.1, P1.2, P1.3, P1.7: each function that is given a list that is no set
// returns ErrArg, before any other error.
func TestNoSet(t *testing.T) {
	full := comb(api.MaxSpans, 0, 1, 2)
	for name, bad := range notSets() {
		t.Run(name, func(t *testing.T) {
			for _, op := range operations() {
				for _, good := range [][]api.Span{nil, sp(1, 2), full} {
					wantNoSet(t, api.ErrArg)(op.call(bad, good))
					wantNoSet(t, api.ErrArg)(op.call(good, bad))
				}
				wantNoSet(t, api.ErrArg)(op.call(bad, bad))
			}
			wantNoSet(t, api.ErrArg)(span.Not(bad))
			wantNoSet(t, api.ErrArg)(span.Grow(bad, 0))
			wantNoSet(t, api.ErrArg)(span.Shrink(bad, 0))
			wantInt(t, 0, api.ErrArg)(span.Size(bad))
			for _, x := range []int{1, 2, -1, minInt, maxInt} {
				wantInt(t, 0, api.ErrArg)(span.Nth(bad, x))
				wantInt(t, 0, api.ErrArg)(span.Rank(bad, x))
				if in, e := span.Has(bad, x); in || e != api.ErrArg {
					t.Errorf("Has: %v, error %d", in, e)
				}
			}
			if s, e := span.Text(bad); s != "" || e != api.ErrArg {
				t.Errorf("Text: %q, error %d", s, e)
			}
		})
	}
}

// P1.2: Has, Size, Nth and Rank of all sets in a window.
func TestElements(t *testing.T) {
	for _, base := range bases() {
		for mask := range 1 << window {
			a, hasA := masked(base, mask, false), member(base, mask, false)
			size := bits.OnesCount(uint(mask))
			wantInt(t, size, api.OK)(span.Size(a))
			rank := 0
			for x := base - 2; x < base+window+2; x++ {
				wantInt(t, rank, api.OK)(span.Rank(a, x))
				if has(t, a, x) != hasA(x) {
					t.Fatalf("Has(%v, %d)", a, x)
				}
				if hasA(x) {
					wantInt(t, x, api.OK)(span.Nth(a, rank))
					rank++
				}
			}
			for _, i := range []int{minInt, minInt + 1, -bound, -2, -1, size, size + 1, bound, maxInt} {
				wantInt(t, 0, api.ErrNone)(span.Nth(a, i))
			}
			for far, below := range map[int]int{minInt: 0, -bound - 1: 0, bound: size, maxInt - 1: size, maxInt: size} {
				if has(t, a, far) {
					t.Fatalf("%v has %d", a, far)
				}
				wantInt(t, below, api.OK)(span.Rank(a, far))
			}
		}
	}
}

// P1.2: elements of the whole and of the empty set.
func TestElementsOfTheWhole(t *testing.T) {
	whole := sp(-bound, bound)
	wantInt(t, 2*bound, api.OK)(span.Size(whole))
	wantInt(t, -bound, api.OK)(span.Nth(whole, 0))
	wantInt(t, bound-1, api.OK)(span.Nth(whole, 2*bound-1))
	wantInt(t, 0, api.ErrNone)(span.Nth(whole, 2*bound))
	wantInt(t, 0, api.ErrNone)(span.Nth(whole, minInt))
	wantInt(t, 0, api.OK)(span.Rank(whole, minInt))
	wantInt(t, 0, api.OK)(span.Rank(whole, -bound))
	wantInt(t, bound, api.OK)(span.Rank(whole, 0))
	wantInt(t, 2*bound, api.OK)(span.Rank(whole, maxInt))
	for x, want := range map[int]bool{minInt: false, -bound - 1: false, -bound: true, 0: true, bound - 1: true, bound: false, maxInt: false} {
		if has(t, whole, x) != want {
			t.Errorf("Has %d: want %v", x, want)
		}
	}
	wantInt(t, 0, api.OK)(span.Size(nil))
	wantInt(t, 0, api.ErrNone)(span.Nth(nil, 0))
	wantInt(t, 0, api.OK)(span.Rank(nil, maxInt))
	if has(t, nil, 0) {
		t.Error("the empty set has 0")
	}
}

// near reports whether a number of the whole that has tells is at most r from x.
func near(x, r int, has func(int) bool) bool {
	for y := max(x-r, -bound); y <= min(x+r, bound-1); y++ {
		if has(y) {
			return true
		}
	}
	return false
}

// P1.3: Grow and Shrink of all sets in a window, against a model of single
// numbers, also where all numbers outside are in the set.
func TestTolerances(t *testing.T) {
	for _, base := range bases() {
		for i := range 2 << window {
			outside := i&1 == 1
			a, hasA := masked(base, i>>1, outside), member(base, i>>1, outside)
			lacksA := func(x int) bool { return !hasA(x) }
			for r := range 2 * window {
				lo, hi := base-r, base+window+r
				wantSet(t, listed(lo, hi, outside, func(x int) bool { return near(x, r, hasA) }))(span.Grow(a, r))
				wantSet(t, listed(lo, hi, outside, func(x int) bool { return !near(x, r, lacksA) }))(span.Shrink(a, r))
			}
		}
	}
}

// P1.3: tolerances up to the greatest one, and what is none.
func TestToleranceLimits(t *testing.T) {
	a, whole := sp(1, 9, 14, 16), sp(-bound, bound)
	wantSet(t, sp(-1, 11, 12, 18))(span.Grow(a, 2))
	wantSet(t, sp(-2, 19))(span.Grow(a, 3))
	wantSet(t, sp(3, 7))(span.Shrink(a, 2))
	wantSet(t, a)(span.Grow(a, 0))
	wantSet(t, a)(span.Shrink(a, 0))
	wantSet(t, sp(1-bound, bound))(span.Grow(a, bound))
	wantSet(t, nil)(span.Shrink(a, bound))
	wantSet(t, sp(-bound, 1))(span.Grow(sp(-bound, -bound+1), bound))
	wantSet(t, sp(-1, bound))(span.Grow(sp(bound-1, bound), bound))
	wantSet(t, sp(-bound, -1))(span.Shrink(sp(-bound, bound-1), bound))
	wantSet(t, sp(1, bound))(span.Shrink(sp(1-bound, bound), bound))
	wantSet(t, nil)(span.Shrink(sp(1-bound, bound-1), bound))
	wantSet(t, sp(-bound, 0))(span.Shrink(sp(-bound, bound-1), bound-1))
	for _, r := range []int{0, 1, bound - 1, bound} {
		wantSet(t, whole)(span.Grow(whole, r))
		wantSet(t, whole)(span.Shrink(whole, r))
		wantSet(t, nil)(span.Grow(nil, r))
		wantSet(t, nil)(span.Shrink(nil, r))
	}
	for _, r := range []int{minInt, -bound, -1, bound + 1, maxInt} {
		wantNoSet(t, api.ErrArg)(span.Grow(a, r))
		wantNoSet(t, api.ErrArg)(span.Shrink(a, r))
		wantNoSet(t, api.ErrArg)(span.Grow(nil, r))
		wantNoSet(t, api.ErrArg)(span.Shrink(nil, r))
	}
	full := comb(api.MaxSpans, 0, 3, 10)
	wantSet(t, comb(api.MaxSpans, -3, 9, 10))(span.Grow(full, 3))
	wantSet(t, comb(api.MaxSpans, 1, 1, 10))(span.Shrink(full, 1))
}
