package span_test

import (
	"math/bits"
	"slices"
	"testing"

	"kimberlite/api"
	"kimberlite/span"
)

// P1.4: the example of the chapter, ties, and where there is no cover.
func TestCover(t *testing.T) {
	example := sp(0, 4, 0, 3, 3, 8, 4, 7, 6, 10, 8, 12)
	for _, c := range []struct {
		target       api.Span
		l            []api.Span
		cover, apart []int
	}{
		{api.Span{Lo: 0, Hi: 10}, example, []int{0, 2, 5}, []int{0, 4, 8}},
		{api.Span{Lo: 0, Hi: 8}, example, []int{0, 2}, []int{0, 4}},
		{api.Span{Lo: 0, Hi: 9}, example, []int{0, 2, 5}, []int{0, 4, 8}},
		{api.Span{Lo: 3, Hi: 4}, example, []int{2}, []int{3}},
		{api.Span{Lo: 7, Hi: 12}, example, []int{4, 5}, []int{7, 10}},
		{api.Span{Lo: 0, Hi: 2}, sp(0, 2, 0, 2), []int{0}, []int{0}},
		{api.Span{Lo: 0, Hi: 2}, sp(0, 1, 0, 2, -5, 2), []int{1}, []int{0}},
		{api.Span{Lo: 0, Hi: 2}, sp(0, 2, -5, 3, 0, 3), []int{1}, []int{0}},
		{api.Span{Lo: 0, Hi: 4}, sp(2, 4, 0, 2, 2, 4, 0, 2), []int{1, 0}, []int{0, 2}},
		{api.Span{Lo: -bound, Hi: bound}, sp(0, bound, -bound, 0), []int{1, 0}, []int{-bound, 0}},
		{api.Span{Lo: -bound, Hi: bound}, sp(-bound, bound), []int{0}, []int{-bound}},
		{api.Span{Lo: bound - 1, Hi: bound}, sp(-bound, bound), []int{0}, []int{bound - 1}},
	} {
		wantInts(t, c.cover...)(span.Cover(c.target, c.l))
		wantInts(t, c.apart...)(span.Apart(c.target, c.l))
	}
	for _, c := range []struct {
		target api.Span
		l      []api.Span
	}{
		{api.Span{Lo: 0, Hi: 10}, nil},
		{api.Span{Lo: 0, Hi: 10}, example[3:]},
		{api.Span{Lo: 0, Hi: 13}, example},
		{api.Span{Lo: -1, Hi: 10}, example},
		{api.Span{Lo: 0, Hi: 4}, sp(0, 2, 3, 4)},
		{api.Span{Lo: 0, Hi: 1}, sp(1, 2)},
		{api.Span{Lo: 0, Hi: 1}, sp(-1, 0)},
		{api.Span{Lo: -bound, Hi: bound}, sp(-bound, bound-1)},
	} {
		wantNoInts(t, api.ErrPlan)(span.Cover(c.target, c.l))
		wantNoInts(t, api.ErrPlan)(span.Apart(c.target, c.l))
	}
}

// P1.4: which error comes first.
func TestCoverErrors(t *testing.T) {
	steps := comb(api.MaxSpans, 0, 1, 1)
	all := make([]int, api.MaxSpans)
	for i := range all {
		all[i] = i
	}
	target := api.Span{Lo: 0, Hi: api.MaxSpans}
	long := comb(api.MaxSpans+1, 0, 1, 1)
	for _, call := range []func(api.Span, []api.Span) ([]int, api.Errno){span.Cover, span.Apart} {
		wantInts(t, all...)(call(target, steps))
		wantNoInts(t, api.ErrLimit)(call(target, long))
		wantNoInts(t, api.ErrLimit)(call(target, make([]api.Span, api.MaxSpans+1)))
		for _, bad := range notValid() {
			wantNoInts(t, api.ErrArg)(call(bad, steps))
			wantNoInts(t, api.ErrArg)(call(bad, nil))
			wantNoInts(t, api.ErrArg)(call(bad, long))
			wantNoInts(t, api.ErrArg)(call(target, []api.Span{bad}))
			wantNoInts(t, api.ErrArg)(call(target, append(sp(0, api.MaxSpans), bad)))
		}
	}
}

// greedy is the choice of P1.4 in its own words; nil if a step finds no span.
func greedy(target api.Span, l []api.Span) (cover, apart []int) {
	for at := target.Lo; at < target.Hi; {
		best := -1
		for i, s := range l {
			if within(s, at) && (best < 0 || s.Hi > l[best].Hi) {
				best = i
			}
		}
		if best < 0 {
			return nil, nil
		}
		cover, apart = append(cover, best), append(apart, at)
		at = l[best].Hi
	}
	return cover, apart
}

// covers reports whether the spans of l that mask has contain all of target.
func covers(target api.Span, l []api.Span, mask int) bool {
	for x := target.Lo; x < target.Hi; x++ {
		if !coveredBy(l, mask, x) {
			return false
		}
	}
	return true
}

// coveredBy reports whether a span of l that mask has contains x.
func coveredBy(l []api.Span, mask, x int) bool {
	for i, s := range l {
		if mask>>i&1 == 1 && within(s, x) {
			return true
		}
	}
	return false
}

// P1.4, P1.10: no fewer spans than Cover's cover the target, in all small cases.
func TestCoverIsLeast(t *testing.T) {
	smallLists(4, 4, func(l []api.Span) {
		for _, target := range smallSpans(4) {
			least := -1
			for mask := range 1 << len(l) {
				if n := bits.OnesCount(uint(mask)); (least < 0 || n < least) && covers(target, l, mask) {
					least = n
				}
			}
			cover, apart := greedy(target, l)
			if least < 0 {
				wantNoInts(t, api.ErrPlan)(span.Cover(target, l))
				wantNoInts(t, api.ErrPlan)(span.Apart(target, l))
				continue
			}
			if len(cover) != least {
				t.Fatalf("%v by %v: %v, but %d suffice", target, l, cover, least)
			}
			wantInts(t, cover...)(span.Cover(target, l))
			wantInts(t, apart...)(span.Apart(target, l))
		}
	})
}

// P1.10: Cover and Apart show each other right, on long lists.
func TestCoverAndApart(t *testing.T) {
	longLists(func(l []api.Span) {
		for _, target := range sp(0, 1, -10, 10, -40, 40) {
			cover, e := span.Cover(target, l)
			apart, f := span.Apart(target, l)
			if e != f || len(cover) != len(apart) {
				t.Fatalf("%v by %v: %v, error %d, and %v, error %d", target, l, cover, e, apart, f)
			}
			if e == api.ErrPlan {
				if covered(target, l) {
					t.Fatalf("%v is covered by %v", target, l)
				}
				continue
			}
			var taken []api.Span
			for _, i := range cover {
				taken = append(taken, l[i])
			}
			if e != api.OK || !covered(target, taken) {
				t.Fatalf("%v is not covered by %v, error %d", target, taken, e)
			}
			for _, x := range apart {
				if !within(target, x) {
					t.Fatalf("%d is not in %v", x, target)
				}
			}
			noneHasTwo(t, l, apart)
		}
	})
}

// covered reports whether the spans of l together contain all of target.
func covered(target api.Span, l []api.Span) bool {
	for x := target.Lo; x < target.Hi; x++ {
		if !slices.ContainsFunc(l, func(s api.Span) bool { return within(s, x) }) {
			return false
		}
	}
	return true
}

// noneHasTwo fails if a span of l contains two of the numbers.
func noneHasTwo(t *testing.T, l []api.Span, numbers []int) {
	t.Helper()
	for _, s := range l {
		n := 0
		for _, x := range numbers {
			if within(s, x) {
				n++
			}
		}
		if n > 1 {
			t.Fatalf("%v contains %d of %v", s, n, numbers)
		}
	}
}

// P1.5: the example of the chapter, and equal ends, which are decided by index.
func TestStab(t *testing.T) {
	for _, c := range []struct {
		l              []api.Span
		stab, disjoint []int
	}{
		{nil, nil, nil},
		{sp(0, 3, 2, 5, 4, 6), []int{2, 5}, []int{0, 2}},
		{sp(4, 6, 2, 5, 0, 3), []int{2, 5}, []int{2, 0}},
		{sp(1, 3, 0, 3), []int{2}, []int{0}},
		{sp(0, 3, 1, 3), []int{2}, []int{0}},
		{sp(0, 5, 1, 3, 2, 3), []int{2}, []int{1}},
		{sp(0, 1, 1, 2, 2, 3), []int{0, 1, 2}, []int{0, 1, 2}},
		{sp(2, 3, 1, 2, 0, 1, 0, 3), []int{0, 1, 2}, []int{2, 1, 0}},
		{sp(7, 9, 7, 9, 0, 9), []int{8}, []int{0}},
		{sp(-bound, bound), []int{bound - 1}, []int{0}},
		{sp(bound-1, bound, -bound, -bound+1), []int{-bound, bound - 1}, []int{1, 0}},
	} {
		wantInts(t, c.stab...)(span.Stab(c.l))
		wantInts(t, c.disjoint...)(span.Disjoint(c.l))
	}
}

// P1.5, P1.6: which error comes first, and that 128 spans are allowed.
func TestListErrors(t *testing.T) {
	calls := map[string]func(l []api.Span) ([]int, api.Errno){
		"Stab":     span.Stab,
		"Disjoint": span.Disjoint,
		"Trays": func(l []api.Span) ([]int, api.Errno) {
			trays, n, e := span.Trays(l)
			if e != api.OK && n != 0 {
				t.Errorf("error %d, and %d trays", e, n)
			}
			return trays, e
		},
		"Depth": func(l []api.Span) ([]int, api.Errno) {
			n, at, e := span.Depth(l)
			if e != api.OK && n == 0 && at == 0 {
				return nil, e
			}
			return []int{n, at}, e
		},
	}
	for name, call := range calls {
		t.Run(name, func(t *testing.T) {
			if got := ints(t)(call(comb(api.MaxSpans, 5, 1, 0))); len(got) == 0 {
				t.Error("nothing of 128 spans")
			}
			wantNoInts(t, api.ErrLimit)(call(comb(api.MaxSpans+1, 5, 1, 0)))
			wantNoInts(t, api.ErrLimit)(call(make([]api.Span, api.MaxSpans+1)))
			for _, bad := range notValid() {
				wantNoInts(t, api.ErrArg)(call([]api.Span{bad}))
				wantNoInts(t, api.ErrArg)(call([]api.Span{{Lo: 1, Hi: 2}, bad}))
				wantNoInts(t, api.ErrArg)(call(append(comb(api.MaxSpans-1, 5, 1, 0), bad)))
			}
		})
	}
}

// stabbed is the choice of P1.5 in its own words.
func stabbed(l []api.Span) (points, owners []int) {
	done := make([]bool, len(l))
	for range l {
		next := -1
		for i, s := range l {
			if !done[i] && (next < 0 || s.Hi < l[next].Hi) {
				next = i
			}
		}
		done[next] = true
		if !slices.ContainsFunc(points, func(x int) bool { return within(l[next], x) }) {
			points, owners = append(points, l[next].Hi-1), append(owners, next)
		}
	}
	return points, owners
}

// P1.5, P1.11: on small and long lists the choice is the one of P1.5, each span
// contains a point, and the spans of Disjoint are apart and as many as the points.
func TestStabAndDisjoint(t *testing.T) {
	check := func(l []api.Span) {
		wantPoints, wantOwners := stabbed(l)
		wantInts(t, wantPoints...)(span.Stab(l))
		wantInts(t, wantOwners...)(span.Disjoint(l))
		points, owners := ints(t)(span.Stab(l)), ints(t)(span.Disjoint(l))
		if len(points) != len(owners) || !slices.IsSorted(points) {
			t.Fatalf("%v: %v and %v", l, points, owners)
		}
		for _, s := range l {
			if !slices.ContainsFunc(points, func(x int) bool { return within(s, x) }) {
				t.Fatalf("%v contains none of %v", s, points)
			}
		}
		for i, x := range owners {
			for _, y := range owners[:i] {
				if meets(l[x], l[y]) {
					t.Fatalf("%v and %v have a number in common", l[x], l[y])
				}
			}
		}
	}
	smallLists(4, 4, check)
	longLists(check)
}

// P1.6: the example of the chapter, and equal ends, which are decided by index.
func TestTrays(t *testing.T) {
	for _, c := range []struct {
		l            []api.Span
		trays        []int
		n, depth, at int
	}{
		{nil, nil, 0, 0, 0},
		{sp(0, 3, 2, 5, 4, 6), []int{0, 1, 0}, 2, 2, 2},
		{sp(5, 9), []int{0}, 1, 1, 5},
		{sp(-9, -5), []int{0}, 1, 1, -9},
		{sp(0, 5, 0, 2, 2, 4), []int{0, 1, 1}, 2, 2, 0},
		{sp(0, 2, 0, 5, 2, 4), []int{0, 1, 0}, 2, 2, 0},
		{sp(0, 1, 0, 1, 0, 1), []int{0, 1, 2}, 3, 3, 0},
		{sp(0, 1, 1, 2, 2, 3), []int{0, 0, 0}, 1, 1, 0},
		{sp(2, 3, 1, 2, 0, 1), []int{0, 0, 0}, 1, 1, 0},
		{sp(0, 2, 0, 1, 1, 5), []int{0, 1, 1}, 2, 2, 0},
		{sp(0, 9, 1, 4, 2, 3, 3, 4, 4, 5), []int{0, 1, 2, 2, 1}, 3, 3, 2},
		{sp(7, 9, 8, 9, 0, 2, 1, 2), []int{0, 1, 0, 1}, 2, 2, 1},
		{sp(-bound, bound, bound-1, bound, -bound, -bound+1), []int{0, 1, 1}, 2, 2, -bound},
	} {
		trays, n, e := span.Trays(c.l)
		if e != api.OK || n != c.n || !slices.Equal(trays, c.trays) {
			t.Errorf("Trays(%v) = %v, %d, error %d", c.l, trays, n, e)
		}
		depth, at, e := span.Depth(c.l)
		if e != api.OK || depth != c.depth || at != c.at {
			t.Errorf("Depth(%v) = %d, %d, error %d", c.l, depth, at, e)
		}
	}
}

// laid is the choice of P1.6 in its own words.
func laid(l []api.Span) []int {
	trays := make([]int, len(l))
	for i := range trays {
		trays[i] = -1
	}
	for range l {
		next := -1
		for i, s := range l {
			if trays[i] < 0 && (next < 0 || s.Lo < l[next].Lo) {
				next = i
			}
		}
		tray := 0
		for taken(l, trays, tray, l[next]) {
			tray++
		}
		trays[next] = tray
	}
	return trays
}

// taken reports whether a span on the tray has a number in common with s.
func taken(l []api.Span, trays []int, tray int, s api.Span) bool {
	for i, x := range l {
		if trays[i] == tray && meets(x, s) {
			return true
		}
	}
	return false
}

// P1.6, P1.12: on small and long lists the trays are those of P1.6, no two
// spans on one of them meet, and as many are used as Depth says.
func TestTraysAndDepth(t *testing.T) {
	check := func(l []api.Span) {
		trays, n, e := span.Trays(l)
		if e != api.OK || !slices.Equal(trays, laid(l)) {
			t.Fatalf("Trays(%v) = %v, error %d", l, trays, e)
		}
		used := 0
		for i, x := range trays {
			used = max(used, x+1)
			for j := range i {
				if trays[j] == x && meets(l[i], l[j]) {
					t.Fatalf("%v and %v are both on tray %d", l[i], l[j], x)
				}
			}
		}
		most, where := 0, 0
		for x := -300; x < 300; x++ {
			count := 0
			for _, s := range l {
				if within(s, x) {
					count++
				}
			}
			if count > most {
				most, where = count, x
			}
		}
		depth, at, e := span.Depth(l)
		if e != api.OK || depth != most || at != where {
			t.Fatalf("Depth(%v) = %d, %d, error %d; want %d, %d", l, depth, at, e, most, where)
		}
		if n != depth || n != used {
			t.Fatalf("%v: %d trays, %d used, depth %d", l, n, used, depth)
		}
	}
	smallLists(3, 4, check)
	longLists(check)
}
