package curve_test

import (
	"slices"
	"testing"

	"kimberlite/api"
	"kimberlite/curve"
)

// Rules 2, 4 and 5 of DOC.md, P1 and P2: what holds for all functions of the package.

// roomy is a copy of l with room behind its end, and all of it.
func roomy[T any](l []T, more T) (part, all []T) {
	all = append(slices.Clone(l), slices.Repeat([]T{more}, 100)...)
	return all[:len(l)], all
}

// wipe overwrites a result, and what is behind its end.
func wipe(l []int) {
	l = l[:cap(l)]
	for i := range l {
		l[i] = -77777777
	}
}

// calls are all functions of the package, with all that they return in numbers,
// and the list in which they return numbers.
func calls() map[string]func(a, b api.Curve) (numbers, list []int) {
	one := func(c api.Curve, e api.Errno) ([]int, []int) {
		return append([]int{c.From, c.First, int(e)}, c.Slopes...), c.Slopes
	}
	three := func(a, b, c int, e api.Errno) ([]int, []int) {
		return []int{a, b, c, int(e)}, nil
	}
	shares := func(x []int, sum, price int, e api.Errno) ([]int, []int) {
		return append([]int{sum, price, int(e)}, x...), x
	}
	return map[string]func(a, b api.Curve) ([]int, []int){
		"Valid": func(a, _ api.Curve) ([]int, []int) {
			if curve.Valid(a) {
				return []int{1}, nil
			}
			return []int{0}, nil
		},
		"At": func(a, b api.Curve) ([]int, []int) {
			v, e := curve.At(a, b.From)
			return []int{v, int(e)}, nil
		},
		"Of":     func(a, b api.Curve) ([]int, []int) { return one(curve.Of(b.From, a.Slopes)) },
		"Add":    func(a, b api.Curve) ([]int, []int) { return one(curve.Add(a, b)) },
		"Join":   func(a, b api.Curve) ([]int, []int) { return one(curve.Join(a, b)) },
		"Flip":   func(a, _ api.Curve) ([]int, []int) { return one(curve.Flip(a)) },
		"Tilt":   func(a, b api.Curve) ([]int, []int) { return one(curve.Tilt(a, b.From)) },
		"Move":   func(a, b api.Curve) ([]int, []int) { return one(curve.Move(a, b.From, b.First)) },
		"Part":   func(a, b api.Curve) ([]int, []int) { return one(curve.Part(a, b.From, toOf(b))) },
		"Bottom": func(a, _ api.Curve) ([]int, []int) { return three(curve.Bottom(a)) },
		"Conj":   func(a, b api.Curve) ([]int, []int) { return one(curve.Conj(a, b.From, toOf(b))) },
		"Meet":   func(a, b api.Curve) ([]int, []int) { return three(curve.Meet(a, b)) },
		"Split": func(a, b api.Curve) ([]int, []int) {
			return shares(curve.Split([]api.Curve{a, b, a}, 2*a.From+b.From+3))
		},
	}
}

// someCurves are curves of many kinds, some of them not valid.
func someCurves() []api.Curve {
	l := []api.Curve{
		{}, {Slopes: []int{}}, cv(0, 0, 1, 3), cv(0, 0, 2, 2), cv(2, 5, -4, -4, 0, 1), cv(-3, 1, 0, 0, 0, 0, 0, 0, 0),
		flat(0, 0, maxSlopes, 0), flat(-9, 5, maxSlopes, 7), flat(0, 0, maxSlopes+1, 0), cv(0, 0, 3, 1),
		cv(maxFrom, maxFirst, maxSlope), cv(-maxFrom, -maxFirst, -maxSlope), cv(minInt, minInt, minInt), cv(maxInt, maxInt, maxInt),
	}
	return append(l, smallCurves(1)...)
}

// Rule 4, P2: arguments stay as they are, up to their capacity; results are new
// memory; and the same call has the same result.
func TestMemory(t *testing.T) {
	for name, call := range calls() {
		for _, a := range someCurves() {
			for _, b := range someCurves() {
				var allA, allB []int
				a, b := a, b
				a.Slopes, allA = roomy(a.Slopes, 5)
				b.Slopes, allB = roomy(b.Slopes, 6)
				wasA, wasB := slices.Clone(allA), slices.Clone(allB)
				first, list := call(a, b)
				wipe(list)
				second, _ := call(a, b)
				if !slices.Equal(first, second) {
					t.Fatalf("%s of %v and %v: first %v, then %v", name, a, b, first, second)
				}
				if !slices.Equal(allA, wasA) || !slices.Equal(allB, wasB) {
					t.Fatalf("%s of %v and %v changes them, or shares memory with them", name, a, b)
				}
			}
		}
	}
}

// Rule 4: what is done to an argument later shows in no result.
func TestResultsStay(t *testing.T) {
	for name, call := range calls() {
		for _, a := range someCurves() {
			for _, b := range []api.Curve{{}, cv(0, 0, 2, 2), cv(1, 1, -1, 0, 4), flat(-3, 0, maxSlopes, 0)} {
				a, b := a, b
				a.Slopes, b.Slopes = slices.Clone(a.Slopes), slices.Clone(b.Slopes)
				_, list := call(a, b)
				was := slices.Clone(list)
				wipe(a.Slopes)
				wipe(b.Slopes)
				if !slices.Equal(list, was) {
					t.Fatalf("%s shares memory with its arguments", name)
				}
			}
		}
	}
}

// Rule 4: Split does not change or keep its list.
func TestSplitMemory(t *testing.T) {
	l, all := roomy([]api.Curve{cv(0, 0, 1, 3), cv(0, 0, 2, 2), {}}, cv(5, 5, 5))
	was := slices.Clone(all)
	for i := range was {
		was[i].Slopes = slices.Clone(was[i].Slopes)
	}
	x, _, _, _ := curve.Split(l, 3)
	wipe(x)
	wantSplit(t, []int{1, 2, 0}, 5, 2)(curve.Split(l, 3))
	if !slices.EqualFunc(all, was, same) {
		t.Errorf("Split changes its list to %v", all)
	}
}

// P1: every function ends, and none panics, on lists that are far too long.
func TestHugeLists(t *testing.T) {
	for _, s := range []int{0, minInt, maxInt} {
		c := flat(0, 0, 1<<20, s)
		for name, call := range calls() {
			numbers, list := call(c, c)
			want := int(api.ErrArg)
			switch name {
			case "Valid":
				want = 0
			case "Of":
				want = int(api.ErrLimit)
			}
			if n := len(numbers) - 1; !slices.Equal(numbers, append(make([]int, n), want)) || len(list) != 0 {
				t.Errorf("%s: %v, %v", name, numbers, list)
			}
		}
		wantNoSplit(t, api.ErrLimit)(curve.Split(slices.Repeat([]api.Curve{c}, 1<<18), s))
	}
}
