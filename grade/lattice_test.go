package grade_test

import (
	"slices"
	"testing"

	"kimberlite/api"
	"kimberlite/grade"
)

// P2.1: Below, Meet and Join go place by place, for any numbers.
func TestPlaceByPlace(t *testing.T) {
	all := box(minInt, -1, 0, 1, top, top+1, maxInt)
	for _, a := range all {
		for _, b := range all {
			if got := grade.Below(a, b); got != below(a, b) {
				t.Fatalf("Below(%v, %v) is %v", a, b, got)
			}
			meet, join := grade.Meet(a, b), grade.Join(a, b)
			for i := range 3 {
				if meet[i] != min(a[i], b[i]) || join[i] != max(a[i], b[i]) {
					t.Fatalf("of %v and %v: Meet is %v, Join is %v", a, b, meet, join)
				}
			}
		}
	}
}

// P2.1: a few cases in plain numbers.
func TestBelow(t *testing.T) {
	for _, c := range []struct {
		a, b       api.Grade
		ab, ba     bool
		meet, join api.Grade
	}{
		{api.Grade{}, api.Grade{}, true, true, api.Grade{}, api.Grade{}},
		{api.Grade{0, 0, 0}, api.Grade{11, 11, 11}, true, false, api.Grade{0, 0, 0}, api.Grade{11, 11, 11}},
		{api.Grade{3, 4, 5}, api.Grade{3, 4, 5}, true, true, api.Grade{3, 4, 5}, api.Grade{3, 4, 5}},
		{api.Grade{3, 4, 5}, api.Grade{3, 4, 6}, true, false, api.Grade{3, 4, 5}, api.Grade{3, 4, 6}},
		{api.Grade{3, 4, 5}, api.Grade{4, 4, 4}, false, false, api.Grade{3, 4, 4}, api.Grade{4, 4, 5}},
		{api.Grade{1, 9, 5}, api.Grade{2, 3, 7}, false, false, api.Grade{1, 3, 5}, api.Grade{2, 9, 7}},
		{api.Grade{-7, 12, 0}, api.Grade{-6, 99, 0}, true, false, api.Grade{-7, 12, 0}, api.Grade{-6, 99, 0}},
		{api.Grade{minInt, 0, maxInt}, api.Grade{maxInt, 0, minInt}, false, false, api.Grade{minInt, 0, minInt}, api.Grade{maxInt, 0, maxInt}},
	} {
		if grade.Below(c.a, c.b) != c.ab || grade.Below(c.b, c.a) != c.ba {
			t.Errorf("Below of %v and %v: %v, %v", c.a, c.b, grade.Below(c.a, c.b), grade.Below(c.b, c.a))
		}
		if grade.Meet(c.a, c.b) != c.meet || grade.Join(c.a, c.b) != c.join {
			t.Errorf("%v and %v: Meet %v, Join %v", c.a, c.b, grade.Meet(c.a, c.b), grade.Join(c.a, c.b))
		}
	}
}

// P2.12: the laws of a distributive lattice for grades, and what Below is in it.
func TestLatticeOfGrades(t *testing.T) {
	meet, join := grade.Meet, grade.Join
	all := box(-3, 0, 11, 12)
	few := box(minInt, 5, maxInt)
	for _, a := range all {
		if meet(a, a) != a || join(a, a) != a {
			t.Fatalf("%v: not idempotent", a)
		}
		for _, b := range all {
			if meet(a, b) != meet(b, a) || join(a, b) != join(b, a) {
				t.Fatalf("%v, %v: not commutative", a, b)
			}
			if meet(a, join(a, b)) != a || join(a, meet(a, b)) != a {
				t.Fatalf("%v, %v: no absorption", a, b)
			}
			if grade.Below(a, b) != (meet(a, b) == a) || grade.Below(a, b) != (join(a, b) == b) {
				t.Fatalf("%v, %v: Below is not as Meet and Join say", a, b)
			}
			for _, c := range few {
				if meet(a, meet(b, c)) != meet(meet(a, b), c) || join(a, join(b, c)) != join(join(a, b), c) {
					t.Fatalf("%v, %v, %v: not associative", a, b, c)
				}
				if meet(a, join(b, c)) != join(meet(a, b), meet(a, c)) || join(a, meet(b, c)) != meet(join(a, b), join(a, c)) {
					t.Fatalf("%v, %v, %v: not distributive", a, b, c)
				}
			}
		}
	}
}

// P2.2: the example, grades that stand twice, and the ends of the scales.
func TestLeastAndMost(t *testing.T) {
	for _, c := range []struct{ l, least, most []api.Grade }{
		{nil, nil, nil},
		{[]api.Grade{}, nil, nil},
		{gr(1, 1, 0, 0, 2, 0, 1, 2, 0), gr(0, 2, 0, 1, 1, 0), gr(1, 2, 0)},
		{gr(5, 5, 5), gr(5, 5, 5), gr(5, 5, 5)},
		{gr(5, 5, 5, 5, 5, 5, 5, 5, 5), gr(5, 5, 5), gr(5, 5, 5)},
		{gr(0, 0, 0, 11, 11, 11), gr(0, 0, 0), gr(11, 11, 11)},
		{gr(11, 11, 11, 0, 0, 0, 11, 11, 11, 0, 0, 0), gr(0, 0, 0), gr(11, 11, 11)},
		{gr(2, 0, 0, 0, 2, 0, 0, 0, 2), gr(0, 0, 2, 0, 2, 0, 2, 0, 0), gr(0, 0, 2, 0, 2, 0, 2, 0, 0)},
		{gr(1, 3, 0, 1, 2, 4, 0, 9, 9), gr(0, 9, 9, 1, 2, 4, 1, 3, 0), gr(0, 9, 9, 1, 2, 4, 1, 3, 0)},
		{gr(3, 3, 4, 3, 3, 3, 2, 3, 3, 3, 2, 3), gr(2, 3, 3, 3, 2, 3), gr(3, 3, 4)},
		{gr(0, 1, 0, 0, 0, 1, 0, 1, 1, 1, 1, 1), gr(0, 0, 1, 0, 1, 0), gr(1, 1, 1)},
		{layer(16), layer(16), layer(16)},
		{slices.Concat(layer(17), layer(16)), layer(16), layer(17)},
	} {
		wantGrades(t, c.least)(grade.Least(c.l))
		wantGrades(t, c.most)(grade.Most(c.l))
	}
}

// extremes is what P2.2 says of l: those of which keep tells no different one.
func extremes(l []api.Grade, beats func(g, than api.Grade) bool) []api.Grade {
	var out []api.Grade
	for _, g := range l {
		beaten := slices.ContainsFunc(l, func(h api.Grade) bool { return h != g && beats(h, g) })
		if !beaten && !slices.Contains(out, g) {
			out = append(out, g)
		}
	}
	slices.SortFunc(out, func(a, b api.Grade) int {
		if ascends(a, b) {
			return -1
		}
		return 1
	})
	return out
}

// P2.2: against its own words, on lists of many kinds and lengths.
func TestLeastAndMostOfLists(t *testing.T) {
	d := dice(2)
	for range 300 {
		most, n := 1+d.next(api.MaxGrades), 1+d.next(top+1)
		l := d.grades(most, n, 1)
		wantGrades(t, extremes(l, below))(grade.Least(l))
		wantGrades(t, extremes(l, func(g, than api.Grade) bool { return below(than, g) }))(grade.Most(l))
	}
}

// P2.2: which error comes first, and that 256 grades are allowed.
func TestLeastAndMostErrors(t *testing.T) {
	for _, call := range []func([]api.Grade) ([]api.Grade, api.Errno){grade.Least, grade.Most} {
		full := slices.Repeat(gr(4, 5, 6), api.MaxGrades)
		wantGrades(t, gr(4, 5, 6))(call(full))
		wantNoGrades(t, api.ErrLimit)(call(append(full, api.Grade{4, 5, 6})))
		wantNoGrades(t, api.ErrLimit)(call(allGrades()))
		for _, bad := range notValid() {
			wantNoGrades(t, api.ErrArg)(call([]api.Grade{bad}))
			wantNoGrades(t, api.ErrArg)(call([]api.Grade{{0, 0, 0}, {11, 11, 11}, bad}))
			wantNoGrades(t, api.ErrArg)(call([]api.Grade{bad, {0, 0, 0}, {11, 11, 11}}))
			wantNoGrades(t, api.ErrArg)(call(append(slices.Repeat(gr(4, 5, 6), api.MaxGrades-1), bad)))
			wantNoGrades(t, api.ErrLimit)(call(slices.Repeat([]api.Grade{bad}, api.MaxGrades+1)))
		}
	}
}
