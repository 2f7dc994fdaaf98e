package span_test

import (
	"slices"
	"testing"

	"kimberlite/api"
	"kimberlite/span"
)

// few are the sets of three numbers at the ends of the whole and around 0, with
// and without all that is outside, and sets of other kinds.
func few() [][]api.Span {
	l := [][]api.Span{sp(-bound, bound), sp(-bound, 0, 5, bound), comb(5, -8, 2, 3), comb(5, -7, 1, 3)}
	for _, first := range []int{-bound, -1, bound - 3} {
		for i := range 2 << 3 {
			has := func(x int) bool { return i>>1>>(x-first)&1 == 1 }
			l = append(l, listed(first, first+3, i&1 == 1, has))
		}
	}
	return l
}

// law fails unless the two sides of a law are the same set.
func law(t *testing.T, name string, left, right []api.Span) {
	t.Helper()
	if !slices.Equal(left, right) {
		t.Fatalf("%s: %v and %v", name, left, right)
	}
}

// P1.8: the laws of a Boolean algebra.
func TestAlgebra(t *testing.T) {
	or := func(a, b []api.Span) []api.Span { return set(t)(span.Union(a, b)) }
	and := func(a, b []api.Span) []api.Span { return set(t)(span.Intersect(a, b)) }
	not := func(a []api.Span) []api.Span { return set(t)(span.Not(a)) }
	whole, sets := sp(-bound, bound), few()
	for _, a := range sets {
		law(t, "or is idempotent", or(a, a), a)
		law(t, "and is idempotent", and(a, a), a)
		law(t, "not of not", not(not(a)), a)
		law(t, "or nothing", or(a, nil), a)
		law(t, "and everything", and(a, whole), a)
		law(t, "or not", or(a, not(a)), whole)
		law(t, "and not", and(a, not(a)), nil)
		for _, b := range sets {
			law(t, "or is commutative", or(a, b), or(b, a))
			law(t, "and is commutative", and(a, b), and(b, a))
			law(t, "not of or", not(or(a, b)), and(not(a), not(b)))
			law(t, "not of and", not(and(a, b)), or(not(a), not(b)))
			law(t, "or absorbs and", or(a, and(a, b)), a)
			law(t, "and absorbs or", and(a, or(a, b)), a)
			law(t, "less is and not", set(t)(span.Subtract(a, b)), and(a, not(b)))
			for _, c := range sets[:len(sets)/2] {
				law(t, "or is associative", or(a, or(b, c)), or(or(a, b), c))
				law(t, "and is associative", and(a, and(b, c)), and(and(a, b), c))
				law(t, "and distributes over or", and(a, or(b, c)), or(and(a, b), and(a, c)))
				law(t, "or distributes over and", or(a, and(b, c)), and(or(a, b), or(a, c)))
			}
		}
	}
}

// in reports whether all numbers of a are in b.
func in(t *testing.T, a, b []api.Span) bool {
	t.Helper()
	return len(set(t)(span.Subtract(a, b))) == 0
}

// P1.9: Grow and Shrink are adjoint.
func TestAdjoint(t *testing.T) {
	for _, a := range few() {
		for _, b := range few() {
			for _, r := range []int{0, 1, 2, 3, bound - 5, bound - 1, bound} {
				grown, shrunk := set(t)(span.Grow(a, r)), set(t)(span.Shrink(b, r))
				if in(t, grown, b) != in(t, a, shrunk) {
					t.Fatalf("%v grows by %d to %v, and %v shrinks to %v", a, r, grown, b, shrunk)
				}
			}
		}
	}
}

// P1.9: to grow by r and then by q is to grow by r + q.
func TestGrowTwice(t *testing.T) {
	steps := []int{0, 1, 2, 3, 7, bound / 2, bound/2 - 1, bound - 1, bound}
	for _, a := range few() {
		for _, r := range steps {
			for _, q := range steps {
				if r+q > bound {
					continue
				}
				once := set(t)(span.Grow(a, r))
				law(t, "grow twice", set(t)(span.Grow(once, q)), set(t)(span.Grow(a, r+q)))
			}
		}
	}
}

// P1.13: the sizes of union and intersection.
func TestSizes(t *testing.T) {
	size := func(a []api.Span) int {
		n, e := span.Size(a)
		if e != api.OK {
			t.Fatalf("Size(%v): error %d", a, e)
		}
		return n
	}
	for _, a := range few() {
		for _, b := range few() {
			both := size(set(t)(span.Union(a, b))) + size(set(t)(span.Intersect(a, b)))
			if both != size(a)+size(b) {
				t.Fatalf("%v and %v: %d", a, b, both)
			}
		}
	}
}

// P1.13: Nth of Rank is the smallest number from x on; Rank of Nth is i.
func TestCounting(t *testing.T) {
	for _, a := range few() {
		size, e := span.Size(a)
		if e != api.OK {
			t.Fatal(e)
		}
		for _, x := range []int{minInt, -bound - 1, -bound, -bound + 3, -31, -2, -1, 0, 1, 2, 31, bound - 4, bound - 1, bound, maxInt} {
			rank, e := span.Rank(a, x)
			if e != api.OK {
				t.Fatal(e)
			}
			want, there := from(a, x)
			if there {
				wantInt(t, want, api.OK)(span.Nth(a, rank))
			} else {
				wantInt(t, 0, api.ErrNone)(span.Nth(a, rank))
			}
		}
		for _, i := range []int{0, 1, 2, 3, size / 2, size - 2, size - 1} {
			if i < 0 || i >= size {
				continue
			}
			x, e := span.Nth(a, i)
			if e != api.OK {
				t.Fatal(e)
			}
			wantInt(t, i, api.OK)(span.Rank(a, x))
		}
	}
}

// from is the smallest number of a that is at least x.
func from(a []api.Span, x int) (int, bool) {
	for _, s := range a {
		if x < s.Hi {
			return max(x, s.Lo), true
		}
	}
	return 0, false
}
