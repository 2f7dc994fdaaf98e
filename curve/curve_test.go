package curve_test

import (
	"slices"
	"testing"

	"kimberlite/api"
	"kimberlite/curve"
)

// What the chapter calls valid: each limit, and one beyond it.
func TestValid(t *testing.T) {
	valid := []api.Curve{
		{}, cv(0, 0), {Slopes: []int{}}, cv(0, 0, 1, 3), cv(0, 0, 2, 2), cv(-5, 7, -3, -3, -1, 0, 0, 4),
		cv(maxFrom, 0), cv(-maxFrom, 0), cv(maxFrom, 0, 1, 2), cv(0, maxFirst), cv(0, -maxFirst), cv(0, maxFirst, 1),
		cv(0, -maxFirst, -1), cv(0, 0, maxSlope), cv(0, 0, -maxSlope), cv(0, 0, -maxSlope, maxSlope),
		cv(0, 0, maxSlope, maxSlope), cv(0, 0, -maxSlope, -maxSlope, 0),
		flat(0, 0, maxSlopes, 0), flat(maxFrom, maxFirst, maxSlopes, maxSlope), flat(-maxFrom, -maxFirst, maxSlopes, -maxSlope),
	}
	for _, c := range append(valid, smallCurves(-1, 0)...) {
		if !curve.Valid(c) {
			t.Errorf("%v is valid", c)
		}
	}
	for _, c := range notValid() {
		if curve.Valid(c) {
			t.Errorf("%v is not valid", c)
		}
	}
	for n := range 2 * maxSlopes {
		if c := flat(0, 0, n, 5); curve.Valid(c) != (n <= maxSlopes) {
			t.Errorf("with %d slopes: %v", n, curve.Valid(c))
		}
	}
}

// A fall at any place makes a curve not valid.
func TestValidFalls(t *testing.T) {
	for n := 2; n <= maxSlopes; n++ {
		for i := 1; i < n; i++ {
			c := flat(0, 0, n, 7)
			c.Slopes[i] = 6
			if curve.Valid(c) {
				t.Fatalf("%v is not valid", c)
			}
		}
	}
}

// P3.1: the value at x, and ErrNone outside the domain.
func TestAt(t *testing.T) {
	l := append(smallCurves(-2, 0, 1), flat(maxFrom, maxFirst, maxSlopes, maxSlope), flat(-maxFrom, -maxFirst, maxSlopes, -maxSlope))
	l = append(l, cv(maxFrom, 5), cv(-maxFrom, 5))
	for _, c := range l {
		for x := c.From - 3; x <= toOf(c)+3; x++ {
			if v, ok := valueOf(c, x); ok {
				wantValue(t, v, api.OK)(curve.At(c, x))
			} else {
				wantValue(t, 0, api.ErrNone)(curve.At(c, x))
			}
		}
		for _, x := range []int{minInt, minInt + 1, minInt + maxFrom, -1 << 32, 1 << 32, maxInt - maxFrom, maxInt} {
			wantValue(t, 0, api.ErrNone)(curve.At(c, x))
		}
	}
	a := cv(0, 0, 1, 3)
	wantValue(t, 0, api.OK)(curve.At(a, 0))
	wantValue(t, 1, api.OK)(curve.At(a, 1))
	wantValue(t, 4, api.OK)(curve.At(a, 2))
	wantValue(t, 0, api.ErrNone)(curve.At(a, 3))
	wantValue(t, 0, api.ErrNone)(curve.At(a, -1))
}

// P3.1: Of returns the curve of the values, or that they are not convex.
func TestOf(t *testing.T) {
	lists := [][]int{{}}
	for done := 0; done < len(lists); done++ {
		l := lists[done]
		if len(l) < 4 {
			for v := -2; v <= 2; v++ {
				lists = append(lists, append(slices.Clone(l), v))
			}
		}
		for _, from := range []int{-3, 0, maxFrom, -maxFrom} {
			if len(l) == 0 {
				wantNoCurve(t, api.ErrArg)(curve.Of(from, l))
			} else if c := made(from, l); !slices.IsSorted(c.Slopes) {
				wantNoCurve(t, api.ErrPlan)(curve.Of(from, l))
			} else {
				wantCurve(t, c)(curve.Of(from, l))
			}
		}
	}
	wantNoCurve(t, api.ErrPlan)(curve.Of(0, []int{0, 2, 1}))
	wantNoCurve(t, api.ErrPlan)(curve.Of(0, []int{0, 1, 2, 3, 5, 7, 8}))
	wantCurve(t, cv(0, 0, 1, 3))(curve.Of(0, []int{0, 1, 4}))
}

// P3.1: Of up to 65 values, each up to 2^40, and the errors in their order.
func TestOfLimits(t *testing.T) {
	for n := 1; n <= maxSlopes+1; n++ {
		wantCurve(t, flat(2, 9, n-1, 0))(curve.Of(2, slices.Repeat([]int{9}, n)))
	}
	far := slices.Repeat([]int{maxInt}, maxSlopes+2)
	wantNoCurve(t, api.ErrLimit)(curve.Of(0, make([]int, maxSlopes+2)))
	wantNoCurve(t, api.ErrLimit)(curve.Of(maxInt, far))
	wantNoCurve(t, api.ErrArg)(curve.Of(maxInt, far[1:]))
	for _, from := range []int{maxFrom + 1, -maxFrom - 1, minInt, maxInt} {
		wantNoCurve(t, api.ErrArg)(curve.Of(from, nil))
		wantNoCurve(t, api.ErrPlan)(curve.Of(from, []int{0, 2, 1}))
		wantNoCurve(t, api.ErrRange)(curve.Of(from, []int{0}))
		wantNoCurve(t, api.ErrRange)(curve.Of(from, []int{0, 1, 4}))
	}
	for _, end := range []int{maxFirst, -maxFirst} {
		wantCurve(t, cv(0, end))(curve.Of(0, []int{end}))
		wantCurve(t, cv(0, end, 0, 0))(curve.Of(0, []int{end, end, end}))
		wantNoCurve(t, api.ErrRange)(curve.Of(0, []int{0, end}))
	}
	wantCurve(t, cv(0, maxFirst-4, 1, 3))(curve.Of(0, []int{maxFirst - 4, maxFirst - 3, maxFirst}))
	for _, v := range []int{maxFirst + 1, -maxFirst - 1, minInt, maxInt} {
		wantNoCurve(t, api.ErrArg)(curve.Of(0, []int{v}))
		wantNoCurve(t, api.ErrArg)(curve.Of(maxFrom+1, []int{v, v, v}))
		wantNoCurve(t, api.ErrArg)(curve.Of(0, []int{v, 0, v}))
		wantNoCurve(t, api.ErrArg)(curve.Of(0, []int{0, v}))
		wantNoCurve(t, api.ErrArg)(curve.Of(0, []int{0, v, 0}))
		wantNoCurve(t, api.ErrArg)(curve.Of(0, []int{0, maxFirst, v}))
	}
	// ErrArg comes before ErrPlan, and ErrPlan before ErrRange.
	wantNoCurve(t, api.ErrArg)(curve.Of(0, []int{0, 1, -maxFirst - 1}))
	wantNoCurve(t, api.ErrArg)(curve.Of(0, []int{maxInt, minInt, maxInt, minInt}))
	wantNoCurve(t, api.ErrPlan)(curve.Of(0, []int{0, 2 * maxSlope, 0}))
	wantNoCurve(t, api.ErrPlan)(curve.Of(maxFrom+1, []int{-maxFirst, maxFirst, -maxFirst}))
	for _, s := range []int{maxSlope, -maxSlope} {
		wantCurve(t, cv(0, 3, s, s))(curve.Of(0, []int{3, 3 + s, 3 + 2*s}))
	}
	wantCurve(t, cv(0, 0, -maxSlope, maxSlope))(curve.Of(0, []int{0, -maxSlope, 0}))
	wantNoCurve(t, api.ErrRange)(curve.Of(0, []int{0, maxSlope + 1}))
	wantNoCurve(t, api.ErrRange)(curve.Of(0, []int{0, -maxSlope - 1}))
	wantNoCurve(t, api.ErrRange)(curve.Of(0, []int{0, 0, maxSlope + 1}))
	wantNoCurve(t, api.ErrRange)(curve.Of(0, []int{0, -maxSlope - 1, -maxSlope - 1}))
	wantNoCurve(t, api.ErrRange)(curve.Of(0, []int{maxFirst, -maxFirst, maxFirst}))
}

// addOf, joinOf, flipOf, tiltOf, moveOf and partOf say, in the chapter's words,
// what values the results have.
func addOf(a, b api.Curve) func(int) (int, bool) {
	return func(x int) (int, bool) {
		u, ok := valueOf(a, x)
		v, ok2 := valueOf(b, x)
		return u + v, ok && ok2
	}
}

func joinOf(a, b api.Curve) func(int) (int, bool) {
	return func(x int) (int, bool) {
		least, any := 0, false
		for y := a.From; y <= toOf(a); y++ {
			u, _ := valueOf(a, y)
			if v, ok := valueOf(b, x-y); ok && (!any || u+v < least) {
				least, any = u+v, true
			}
		}
		return least, any
	}
}

func flipOf(c api.Curve) func(int) (int, bool) {
	return func(x int) (int, bool) { return valueOf(c, -x) }
}

func tiltOf(c api.Curve, p int) func(int) (int, bool) {
	return func(x int) (int, bool) {
		v, ok := valueOf(c, x)
		return v + p*x, ok
	}
}

func moveOf(c api.Curve, x, y int) func(int) (int, bool) {
	return func(z int) (int, bool) {
		v, ok := valueOf(c, z-x)
		return v + y, ok
	}
}

func partOf(c api.Curve, from, to int) func(int) (int, bool) {
	return func(x int) (int, bool) {
		v, ok := valueOf(c, x)
		return v, ok && from <= x && x <= to
	}
}

// wantPlotted fails unless the call gave what f has from lo to hi: ErrNone if
// that is nothing, ErrRange if that is not valid. It returns the error.
func wantPlotted(t *testing.T, lo, hi int, f func(int) (int, bool)) func(api.Curve, api.Errno) api.Errno {
	return func(got api.Curve, e api.Errno) api.Errno {
		t.Helper()
		want, any := plotted(t, lo, hi, f)
		switch {
		case !any:
			wantNoCurve(t, api.ErrNone)(got, e)
		case !isValid(want):
			wantNoCurve(t, api.ErrRange)(got, e)
		default:
			wantCurve(t, want)(got, e)
		}
		return e
	}
}

// P3.2: Add and Join, of all small curves with each other.
func TestAddJoinSmall(t *testing.T) {
	for _, a := range smallCurves(0) {
		for _, b := range smallCurves(-2, 0, 1, 3) {
			wantPlotted(t, -9, 15, addOf(a, b))(curve.Add(a, b))
			wantPlotted(t, -9, 15, joinOf(a, b))(curve.Join(a, b))
			wantPlotted(t, -9, 15, addOf(b, a))(curve.Add(b, a))
			wantPlotted(t, -9, 15, joinOf(b, a))(curve.Join(b, a))
		}
	}
}

// P3.2: Add on domains that meet in one number, or in none.
func TestAddMeets(t *testing.T) {
	a := cv(0, 10, 1, 2, 3)
	wantCurve(t, cv(3, 36))(curve.Add(a, cv(3, 20, 4, 5)))
	wantCurve(t, cv(0, 37))(curve.Add(a, cv(-2, 20, 3, 4)))
	wantNoCurve(t, api.ErrNone)(curve.Add(a, cv(4, 20, 4, 5)))
	wantNoCurve(t, api.ErrNone)(curve.Add(a, cv(-3, 20, 3, 4)))
	wantNoCurve(t, api.ErrNone)(curve.Add(a, cv(maxFrom, maxFirst, maxSlope)))
	wantNoCurve(t, api.ErrNone)(curve.Add(cv(-maxFrom, maxFirst), cv(maxFrom, maxFirst)))
	wantCurve(t, cv(2, 33))(curve.Add(a, cv(2, 20)))
	wantCurve(t, cv(1, 31, 2+5))(curve.Add(a, cv(1, 20, 5)))
}

// P3.2: Flip, Tilt, Move and Part of all small curves.
func TestOneSmall(t *testing.T) {
	for _, c := range smallCurves(-2, 0, 1, 3) {
		wantPlotted(t, -9, 15, flipOf(c))(curve.Flip(c))
		for n := -4; n <= 4; n++ {
			wantPlotted(t, -9, 15, tiltOf(c, n))(curve.Tilt(c, n))
			wantPlotted(t, -12, 18, moveOf(c, n, 3-n*n))(curve.Move(c, n, 3-n*n))
		}
		for lo := -5; lo <= 8; lo++ {
			for hi := -5; hi <= 8; hi++ {
				wantPlotted(t, -9, 15, partOf(c, lo, hi))(curve.Part(c, lo, hi))
			}
		}
	}
}

// P3.2: any numbers may be the ends of a part.
func TestPartEnds(t *testing.T) {
	for _, c := range append(smallCurves(0), flat(5, 5, maxSlopes, 2)) {
		wantCurve(t, c)(curve.Part(c, minInt, maxInt))
		wantCurve(t, c)(curve.Part(c, c.From, toOf(c)))
		wantCurve(t, c)(curve.Part(c, minInt, toOf(c)))
		wantCurve(t, c)(curve.Part(c, c.From, maxInt))
		v, _ := valueOf(c, toOf(c))
		wantCurve(t, cv(toOf(c), v))(curve.Part(c, toOf(c), maxInt))
		wantCurve(t, cv(c.From, c.First))(curve.Part(c, minInt, c.From))
		wantNoCurve(t, api.ErrNone)(curve.Part(c, toOf(c)+1, maxInt))
		wantNoCurve(t, api.ErrNone)(curve.Part(c, minInt, c.From-1))
		wantNoCurve(t, api.ErrNone)(curve.Part(c, maxInt, minInt))
		wantNoCurve(t, api.ErrNone)(curve.Part(c, minInt, minInt))
		wantNoCurve(t, api.ErrNone)(curve.Part(c, maxInt, maxInt))
		wantNoCurve(t, api.ErrNone)(curve.Part(c, toOf(c)+1, c.From))
		wantNoCurve(t, api.ErrNone)(curve.Part(c, c.From+1, c.From))
	}
}

// P3.2: Tilt and Move take numbers within their limits.
func TestTiltMoveArgs(t *testing.T) {
	c := cv(0, 0, 0, 0)
	for _, p := range []int{maxSlope, -maxSlope} {
		wantCurve(t, cv(0, 0, p, p))(curve.Tilt(c, p))
		wantCurve(t, cv(p, 0, 0, 0))(curve.Move(c, p, 0))
	}
	for _, y := range []int{maxFirst, -maxFirst} {
		wantCurve(t, cv(0, y, 0, 0))(curve.Move(c, 0, y))
	}
	for _, n := range []int{maxSlope + 1, -maxSlope - 1, minInt, maxInt} {
		for _, c := range []api.Curve{c, {}, cv(-maxFrom, -maxFirst, -maxSlope), cv(maxFrom, maxFirst, maxSlope)} {
			wantNoCurve(t, api.ErrArg)(curve.Tilt(c, n))
			wantNoCurve(t, api.ErrArg)(curve.Move(c, n, 0))
			wantNoCurve(t, api.ErrArg)(curve.Move(c, n, n))
		}
	}
	for _, n := range []int{maxFirst + 1, -maxFirst - 1, minInt, maxInt} {
		for _, c := range []api.Curve{c, {}, cv(-maxFrom, -maxFirst, -maxSlope), cv(maxFrom, maxFirst, maxSlope)} {
			wantNoCurve(t, api.ErrArg)(curve.Move(c, 0, n))
			wantNoCurve(t, api.ErrArg)(curve.Move(c, maxFrom, n))
		}
	}
}

// ErrArg comes before all others: a curve that is not valid, in each place.
func TestNotValidFirst(t *testing.T) {
	good := []api.Curve{{}, cv(0, 0, 1, 3), cv(maxFrom, maxFirst, maxSlope), cv(-maxFrom, -maxFirst)}
	for _, c := range notValid() {
		for _, x := range []int{0, 1, -1, c.From, minInt, maxInt, maxFrom + 1} {
			wantValue(t, 0, api.ErrArg)(curve.At(c, x))
			wantNoCurve(t, api.ErrArg)(curve.Tilt(c, x))
			wantNoCurve(t, api.ErrArg)(curve.Move(c, x, x))
			wantNoCurve(t, api.ErrArg)(curve.Part(c, x, x))
			wantNoCurve(t, api.ErrArg)(curve.Part(c, maxInt, x))
			wantNoCurve(t, api.ErrArg)(curve.Conj(c, x, x))
			wantNoCurve(t, api.ErrArg)(curve.Conj(c, 0, x))
			wantNoSplit(t, api.ErrArg)(curve.Split([]api.Curve{c}, x))
		}
		wantNoCurve(t, api.ErrArg)(curve.Flip(c))
		wantThree(t, 0, 0, 0, api.ErrArg)(curve.Bottom(c))
		for _, g := range append(good, c) {
			wantNoCurve(t, api.ErrArg)(curve.Add(c, g))
			wantNoCurve(t, api.ErrArg)(curve.Add(g, c))
			wantNoCurve(t, api.ErrArg)(curve.Join(c, g))
			wantNoCurve(t, api.ErrArg)(curve.Join(g, c))
			wantThree(t, 0, 0, 0, api.ErrArg)(curve.Meet(c, g))
			wantThree(t, 0, 0, 0, api.ErrArg)(curve.Meet(g, c))
		}
	}
}
