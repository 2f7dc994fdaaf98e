package grade_test

import (
	"slices"
	"testing"

	"kimberlite/api"
	"kimberlite/grade"
)

// classes are antichains of many kinds: nothing, everything, the ends, the
// longest ones, and some others, always the same ones.
func classes() [][]api.Grade {
	l := [][]api.Grade{
		nil, gr(0, 0, 0), gr(11, 11, 11), gr(0, 0, 1), gr(11, 11, 10), gr(11, 11, 0), gr(0, 11, 0),
		gr(0, 0, 11, 0, 11, 0, 11, 0, 0), gr(0, 0, 1, 0, 1, 0, 1, 0, 0), gr(10, 11, 11, 11, 10, 11, 11, 11, 10),
		gr(0, 3, 0), gr(2, 0, 0), gr(2, 3, 0), gr(0, 3, 0, 2, 0, 0), gr(4, 4, 4), gr(4, 4, 5, 4, 5, 4, 5, 4, 4),
		layer(2), layer(16), layer(17), layer(30),
	}
	d := dice(3)
	for i := range 14 {
		l = append(l, extremes(d.grades(4+4*i, 2+d.next(top), 1), below))
	}
	return l
}

// notChains are lists that are no antichains, with what is wrong with them.
func notChains() map[string][]api.Grade {
	return map[string][]api.Grade{
		"twice":                 gr(1, 2, 3, 1, 2, 3),
		"descending":            gr(2, 0, 0, 0, 2, 0),
		"descending behind":     gr(1, 2, 0, 1, 0, 2),
		"descending at the end": gr(0, 0, 5, 0, 5, 0, 0, 4, 4),
		"below the next":        gr(1, 2, 3, 1, 2, 4),
		"below in the middle":   gr(0, 0, 9, 0, 9, 0, 1, 9, 0, 9, 0, 0),
		"below one far behind":  gr(0, 0, 5, 0, 1, 0, 1, 0, 6),
		"everything":            allGrades(),
		"least and greatest":    gr(0, 0, 0, 11, 11, 11),
		"too many":              append(layer(16), layer(17)...),
		"257 equal ones":        slices.Repeat(gr(0, 0, 0), api.MaxGrades+1),
		"257 that are no grade": slices.Repeat(gr(12, 0, 0), api.MaxGrades+1),
	}
}

// isClass fails unless got is the antichain of the class that has tells.
func isClass(t *testing.T, got []api.Grade, has func(api.Grade) bool) {
	t.Helper()
	sorted(t, got)
	for _, g := range allGrades() {
		if over(got, g) != has(g) {
			t.Fatalf("of %v, %v is a member: %v", got, g, over(got, g))
		}
	}
}

// P2.3: plain cases.
func TestClasses(t *testing.T) {
	for _, c := range []struct{ class, outside []api.Grade }{
		{nil, gr(11, 11, 11)},
		{gr(0, 0, 0), nil},
		{gr(0, 0, 1), gr(11, 11, 0)},
		{gr(11, 11, 11), gr(10, 11, 11, 11, 10, 11, 11, 11, 10)},
		{gr(3, 0, 0), gr(2, 11, 11)},
		{gr(0, 3, 0, 2, 0, 0), gr(1, 2, 11)},
		{gr(2, 3, 0), gr(1, 11, 11, 11, 2, 11)},
		{gr(0, 0, 1, 0, 1, 0, 1, 0, 0), gr(0, 0, 0)},
		{layer(17), layer(16)},
	} {
		wantGrades(t, c.outside)(grade.Outside(c.class))
		wantGrades(t, c.class)(grade.Beyond(c.outside))
	}
	for _, c := range []struct{ a, b, either, both []api.Grade }{
		{nil, nil, nil, nil},
		{nil, gr(1, 2, 3), gr(1, 2, 3), nil},
		{gr(0, 0, 0), gr(1, 2, 3), gr(0, 0, 0), gr(1, 2, 3)},
		{gr(0, 0, 0), nil, gr(0, 0, 0), nil},
		{gr(0, 3, 0), gr(2, 0, 0), gr(0, 3, 0, 2, 0, 0), gr(2, 3, 0)},
		{gr(1, 2, 3), gr(1, 2, 3), gr(1, 2, 3), gr(1, 2, 3)},
		{gr(1, 2, 3), gr(1, 2, 4), gr(1, 2, 3), gr(1, 2, 4)},
		{gr(0, 5, 0, 5, 0, 0), gr(0, 0, 5, 3, 3, 0), gr(0, 0, 5, 0, 5, 0, 3, 3, 0, 5, 0, 0), gr(0, 5, 5, 3, 5, 0, 5, 0, 5, 5, 3, 0)},
		{layer(16), layer(17), layer(16), layer(17)},
		{layer(0), layer(33), gr(0, 0, 0), gr(11, 11, 11)},
	} {
		wantGrades(t, c.either)(grade.Either(c.a, c.b))
		wantGrades(t, c.either)(grade.Either(c.b, c.a))
		wantGrades(t, c.both)(grade.Both(c.a, c.b))
		wantGrades(t, c.both)(grade.Both(c.b, c.a))
	}
	for _, c := range []struct {
		class []api.Grade
		n     int
	}{
		{nil, 0},
		{gr(0, 0, 0), 12 * 12 * 12},
		{gr(11, 11, 11), 1},
		{gr(11, 11, 10), 2},
		{gr(10, 10, 10), 8},
		{gr(0, 0, 1), 12 * 12 * 11},
		{gr(0, 3, 0, 2, 0, 0), 12 * (144 - 6)},
		{gr(0, 0, 1, 0, 1, 0, 1, 0, 0), 12*12*12 - 1},
		{layer(17), 12 * 12 * 6},
	} {
		if n := number(t)(grade.Count(c.class)); n != c.n {
			t.Errorf("Count(%v) is %d; want %d", c.class, n, c.n)
		}
	}
}

// P2.3, P2.8: In, Outside, Beyond and Count of each class, grade by grade.
func TestEachClass(t *testing.T) {
	for _, c := range classes() {
		outside, beyond := list(t)(grade.Outside(c)), list(t)(grade.Beyond(c))
		sorted(t, outside)
		members := 0
		for _, g := range allGrades() {
			in, e := grade.In(c, g)
			if e != api.OK || in != over(c, g) {
				t.Fatalf("In(%v, %v) is %v, error %d", c, g, in, e)
			}
			if in == under(outside, g) {
				t.Fatalf("%v in the class %v is %v; outside is %v", g, c, in, outside)
			}
			if in {
				members++
			}
		}
		isClass(t, beyond, func(g api.Grade) bool { return !under(c, g) })
		if n := number(t)(grade.Count(c)); n != members {
			t.Fatalf("Count(%v) is %d; want %d", c, n, members)
		}
		wantGrades(t, c)(grade.Beyond(outside))
		wantGrades(t, c)(grade.Outside(beyond))
	}
}

// P2.3, P2.8: Either and Both of every two classes, and their numbers.
func TestTwoClasses(t *testing.T) {
	for _, a := range classes() {
		for _, b := range classes() {
			either, both := list(t)(grade.Either(a, b)), list(t)(grade.Both(a, b))
			isClass(t, either, func(g api.Grade) bool { return over(a, g) || over(b, g) })
			isClass(t, both, func(g api.Grade) bool { return over(a, g) && over(b, g) })
			together := number(t)(grade.Count(either)) + number(t)(grade.Count(both))
			if alone := number(t)(grade.Count(a)) + number(t)(grade.Count(b)); together != alone {
				t.Fatalf("%v and %v: together %d, alone %d", a, b, together, alone)
			}
		}
	}
}

// P2.12: the laws of a distributive lattice for classes.
func TestLatticeOfClasses(t *testing.T) {
	or := func(a, b []api.Grade) []api.Grade { return list(t)(grade.Either(a, b)) }
	and := func(a, b []api.Grade) []api.Grade { return list(t)(grade.Both(a, b)) }
	law := func(name string, left, right []api.Grade) {
		t.Helper()
		if !slices.Equal(left, right) {
			t.Fatalf("%s: %v and %v", name, left, right)
		}
	}
	var l [][]api.Grade
	for i, c := range classes() {
		if i%3 == 0 {
			l = append(l, c)
		}
	}
	everything := gr(0, 0, 0)
	for _, a := range l {
		law("or is idempotent", or(a, a), a)
		law("and is idempotent", and(a, a), a)
		law("or nothing", or(a, nil), a)
		law("and everything", and(a, everything), a)
		law("or everything", or(a, everything), everything)
		law("and nothing", and(a, nil), nil)
		for _, b := range l {
			law("or is commutative", or(a, b), or(b, a))
			law("and is commutative", and(a, b), and(b, a))
			law("or absorbs and", or(a, and(a, b)), a)
			law("and absorbs or", and(a, or(a, b)), a)
			for _, c := range l[:5] {
				law("or is associative", or(a, or(b, c)), or(or(a, b), c))
				law("and is associative", and(a, and(b, c)), and(and(a, b), c))
				law("and distributes over or", and(a, or(b, c)), or(and(a, b), and(a, c)))
				law("or distributes over and", or(a, and(b, c)), and(or(a, b), or(a, c)))
			}
		}
	}
}

// P2.12: for classes of one least member, Both is Join, and the one class has
// the other one exactly if it is below.
func TestClassesOfOne(t *testing.T) {
	few := box(0, 4, 11)
	for _, g := range few {
		for _, h := range few {
			wantGrades(t, []api.Grade{grade.Join(g, h)})(grade.Both([]api.Grade{g}, []api.Grade{h}))
			in, e := grade.In([]api.Grade{g}, h)
			if e != api.OK || in != grade.Below(g, h) {
				t.Fatalf("In(%v, %v) is %v, error %d", g, h, in, e)
			}
		}
	}
}

// oneClass are the functions of one antichain; each returns what must be empty
// with an error.
func oneClass() map[string]func([]api.Grade) ([]api.Grade, api.Errno) {
	return map[string]func([]api.Grade) ([]api.Grade, api.Errno){
		"Outside": grade.Outside,
		"Beyond":  grade.Beyond,
		"Count": func(l []api.Grade) ([]api.Grade, api.Errno) {
			n, e := grade.Count(l)
			return make([]api.Grade, n), e
		},
		"In": func(l []api.Grade) ([]api.Grade, api.Errno) {
			in, e := grade.In(l, api.Grade{11, 11, 11})
			if in {
				return gr(11, 11, 11), e
			}
			return nil, e
		},
		"Either 1": func(l []api.Grade) ([]api.Grade, api.Errno) { return grade.Either(l, nil) },
		"Either 2": func(l []api.Grade) ([]api.Grade, api.Errno) { return grade.Either(gr(0, 0, 0), l) },
		"Both 1":   func(l []api.Grade) ([]api.Grade, api.Errno) { return grade.Both(l, gr(0, 0, 0)) },
		"Both 2":   func(l []api.Grade) ([]api.Grade, api.Errno) { return grade.Both(nil, l) },
	}
}

// P2.3: ErrArg for what is no antichain; the longest antichains are allowed.
func TestClassErrors(t *testing.T) {
	for name, call := range oneClass() {
		t.Run(name, func(t *testing.T) {
			for _, l := range notChains() {
				wantNoGrades(t, api.ErrArg)(call(l))
			}
			for _, bad := range notValid() {
				wantNoGrades(t, api.ErrArg)(call([]api.Grade{bad}))
				wantNoGrades(t, api.ErrArg)(call([]api.Grade{bad, {11, 0, 0}}))
				wantNoGrades(t, api.ErrArg)(call([]api.Grade{{0, 0, 11}, bad}))
				wantNoGrades(t, api.ErrArg)(call([]api.Grade{{0, 0, 11}, {0, 11, 0}, bad}))
			}
			for _, sum := range []int{16, 17} {
				if l := layer(sum); len(l) != 108 {
					t.Fatal(len(l))
				}
				list(t)(call(layer(sum)))
			}
		})
	}
}

// P2.3: In also asks for a valid grade, whatever the class.
func TestInErrors(t *testing.T) {
	for _, bad := range notValid() {
		for _, class := range [][]api.Grade{nil, gr(0, 0, 0), gr(11, 11, 11), layer(16), gr(12, 0, 0), {bad}} {
			if in, e := grade.In(class, bad); in || e != api.ErrArg {
				t.Fatalf("In(%v, %v) is %v, error %d", class, bad, in, e)
			}
		}
	}
}
