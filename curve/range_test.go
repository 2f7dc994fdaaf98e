package curve_test

import (
	"testing"

	"kimberlite/api"
	"kimberlite/curve"
)

// ErrRange: results at their limits, and just outside.

func TestAddRange(t *testing.T) {
	wantCurve(t, cv(0, maxFirst))(curve.Add(cv(0, maxFirst-5), cv(0, 5)))
	wantCurve(t, cv(0, -maxFirst))(curve.Add(cv(0, -maxFirst+5), cv(0, -5)))
	wantNoCurve(t, api.ErrRange)(curve.Add(cv(0, maxFirst-5), cv(0, 6)))
	wantNoCurve(t, api.ErrRange)(curve.Add(cv(0, -maxFirst+5), cv(0, -6)))
	wantNoCurve(t, api.ErrRange)(curve.Add(cv(0, maxFirst), cv(0, maxFirst)))
	wantCurve(t, cv(0, 0, maxSlope))(curve.Add(cv(0, 0, maxSlope-1), cv(0, 0, 1)))
	wantCurve(t, cv(0, 0, -maxSlope))(curve.Add(cv(0, 0, -maxSlope+1), cv(0, 0, -1)))
	wantNoCurve(t, api.ErrRange)(curve.Add(cv(0, 0, maxSlope), cv(0, 0, 1)))
	wantNoCurve(t, api.ErrRange)(curve.Add(cv(0, 0, 1, maxSlope), cv(0, 0, 1, 1)))
	wantNoCurve(t, api.ErrRange)(curve.Add(cv(0, 0, -maxSlope), cv(0, 0, -1)))
	wantNoCurve(t, api.ErrRange)(curve.Add(cv(0, 0, -maxSlope, 1), cv(0, 0, -1, 1)))
	// What is outside the common domain does not matter.
	wantCurve(t, cv(0, 0, 4))(curve.Add(cv(0, 0, 1, maxSlope), cv(0, 0, 3)))
	wantCurve(t, cv(1, 7+3-maxSlope, 4))(curve.Add(cv(0, 7, -maxSlope, 1), cv(1, 3, 3)))
	wantCurve(t, cv(1, maxFirst, 4))(curve.Add(cv(0, maxFirst, -1, 1), cv(1, 1, 3)))
	wantNoCurve(t, api.ErrRange)(curve.Add(cv(0, maxFirst, 1, 1), cv(1, 0, 3)))
	// Values behind the first one may be greater than a first one.
	wantCurve(t, cv(0, maxFirst, 4, 5))(curve.Add(cv(0, maxFirst, 1, 2), cv(0, 0, 3, 3)))
}

func TestJoinRange(t *testing.T) {
	wantCurve(t, cv(maxFrom, 0, 1))(curve.Join(cv(maxFrom-5, 0), cv(5, 0, 1)))
	wantCurve(t, cv(-maxFrom, 0, 1))(curve.Join(cv(-maxFrom+5, 0), cv(-5, 0, 1)))
	wantNoCurve(t, api.ErrRange)(curve.Join(cv(maxFrom-5, 0), cv(6, 0)))
	wantNoCurve(t, api.ErrRange)(curve.Join(cv(-maxFrom+5, 0), cv(-6, 0)))
	wantNoCurve(t, api.ErrRange)(curve.Join(cv(maxFrom, 0), cv(maxFrom, 0)))
	wantCurve(t, cv(0, maxFirst, 1))(curve.Join(cv(0, maxFirst-5), cv(0, 5, 1)))
	wantCurve(t, cv(0, -maxFirst, 1))(curve.Join(cv(0, -maxFirst+5), cv(0, -5, 1)))
	wantNoCurve(t, api.ErrRange)(curve.Join(cv(0, maxFirst-5), cv(0, 6)))
	wantNoCurve(t, api.ErrRange)(curve.Join(cv(0, -maxFirst+5), cv(0, -6)))
	for _, n := range []int{0, 1, 31, 32, 63, 64} {
		a, b := flat(0, 0, n, 3), flat(0, 0, maxSlopes-n, 3)
		wantCurve(t, flat(0, 0, maxSlopes, 3))(curve.Join(a, b))
		b.Slopes = append(b.Slopes, 4)
		if len(b.Slopes) <= maxSlopes {
			wantNoCurve(t, api.ErrRange)(curve.Join(a, b))
			wantNoCurve(t, api.ErrRange)(curve.Join(b, a))
		}
	}
	wantNoCurve(t, api.ErrRange)(curve.Join(flat(0, 0, maxSlopes, 0), flat(0, 0, maxSlopes, 0)))
	wantCurve(t, cv(0, 0, -maxSlope, -maxSlope, maxSlope, maxSlope))(
		curve.Join(cv(0, 0, -maxSlope, maxSlope), cv(0, 0, -maxSlope, maxSlope)))
}

func TestFlipRange(t *testing.T) {
	wantCurve(t, cv(-maxFrom, 3))(curve.Flip(cv(maxFrom, 3)))
	wantCurve(t, cv(maxFrom, 3))(curve.Flip(cv(-maxFrom, 3)))
	wantCurve(t, cv(-maxFrom, 4, -1))(curve.Flip(cv(maxFrom-1, 3, 1)))
	wantNoCurve(t, api.ErrRange)(curve.Flip(cv(maxFrom, 3, 1)))
	wantCurve(t, cv(maxFrom-2, 2, 0, 1))(curve.Flip(cv(-maxFrom, 3, -1, 0)))
	wantCurve(t, cv(-1, maxFirst, -1))(curve.Flip(cv(0, maxFirst-1, 1)))
	wantNoCurve(t, api.ErrRange)(curve.Flip(cv(0, maxFirst-1, 2)))
	wantCurve(t, cv(-1, -maxFirst, 1))(curve.Flip(cv(0, -maxFirst+1, -1)))
	wantNoCurve(t, api.ErrRange)(curve.Flip(cv(0, -maxFirst+1, -2)))
	wantCurve(t, cv(-2, 0, -maxSlope, maxSlope))(curve.Flip(cv(0, 0, -maxSlope, maxSlope)))
	wantCurve(t, flat(-maxSlopes, maxSlopes*maxSlope, maxSlopes, -maxSlope))(curve.Flip(flat(0, 0, maxSlopes, maxSlope)))
}

func TestTiltRange(t *testing.T) {
	wantCurve(t, cv(5, maxFirst, 3))(curve.Tilt(cv(5, maxFirst-10, 1), 2))
	wantNoCurve(t, api.ErrRange)(curve.Tilt(cv(5, maxFirst-9, 1), 2))
	wantCurve(t, cv(-5, -maxFirst, 3))(curve.Tilt(cv(-5, -maxFirst+10, 1), 2))
	wantNoCurve(t, api.ErrRange)(curve.Tilt(cv(-5, -maxFirst+9, 1), 2))
	wantCurve(t, cv(0, 0, 6, maxSlope))(curve.Tilt(cv(0, 0, 1, maxSlope-5), 5))
	wantNoCurve(t, api.ErrRange)(curve.Tilt(cv(0, 0, 1, maxSlope-5), 6))
	wantCurve(t, cv(0, 0, -maxSlope, -4))(curve.Tilt(cv(0, 0, -maxSlope+5, 1), -5))
	wantNoCurve(t, api.ErrRange)(curve.Tilt(cv(0, 0, -maxSlope+5, 1), -6))
	wantCurve(t, cv(maxFrom, maxFirst))(curve.Tilt(cv(maxFrom, 0), maxSlope))
	wantCurve(t, cv(-maxFrom, -maxFirst))(curve.Tilt(cv(-maxFrom, 0), maxSlope))
	wantCurve(t, cv(-maxFrom, maxFirst))(curve.Tilt(cv(-maxFrom, 0), -maxSlope))
	wantCurve(t, cv(maxFrom, maxFirst, 0))(curve.Tilt(cv(maxFrom, 0, -maxSlope), maxSlope))
	wantNoCurve(t, api.ErrRange)(curve.Tilt(cv(maxFrom, 1), maxSlope))
	wantNoCurve(t, api.ErrRange)(curve.Tilt(cv(maxFrom, maxFirst), maxSlope))
	wantNoCurve(t, api.ErrRange)(curve.Tilt(cv(-maxFrom, -maxFirst), maxSlope))
}

func TestMoveRange(t *testing.T) {
	wantCurve(t, cv(maxFrom, 1, 1))(curve.Move(cv(maxFrom-3, 0, 1), 3, 1))
	wantNoCurve(t, api.ErrRange)(curve.Move(cv(maxFrom-3, 0, 1), 4, 1))
	wantCurve(t, cv(-maxFrom, 1, 1))(curve.Move(cv(-maxFrom+3, 0, 1), -3, 1))
	wantNoCurve(t, api.ErrRange)(curve.Move(cv(-maxFrom+3, 0, 1), -4, 1))
	wantCurve(t, cv(0, maxFirst, 1))(curve.Move(cv(0, maxFirst-3, 1), 0, 3))
	wantNoCurve(t, api.ErrRange)(curve.Move(cv(0, maxFirst-3, 1), 0, 4))
	wantCurve(t, cv(0, -maxFirst, 1))(curve.Move(cv(0, -maxFirst+3, 1), 0, -3))
	wantNoCurve(t, api.ErrRange)(curve.Move(cv(0, -maxFirst+3, 1), 0, -4))
	wantCurve(t, cv(-maxFrom, -maxFirst))(curve.Move(cv(0, 0), -maxFrom, -maxFirst))
	wantCurve(t, cv(0, 0))(curve.Move(cv(maxFrom, maxFirst), -maxFrom, -maxFirst))
	wantNoCurve(t, api.ErrRange)(curve.Move(cv(maxFrom, maxFirst), maxFrom, maxFirst))
	wantNoCurve(t, api.ErrRange)(curve.Move(cv(-maxFrom, -maxFirst), -maxFrom, -maxFirst))
}

func TestPartRange(t *testing.T) {
	c := flat(maxFrom-1, 0, 3, 1)
	wantCurve(t, cv(maxFrom-1, 0, 1, 1, 1))(curve.Part(c, maxFrom-1, maxFrom+2))
	wantCurve(t, cv(maxFrom, 1, 1, 1))(curve.Part(c, maxFrom, maxFrom+2))
	wantNoCurve(t, api.ErrRange)(curve.Part(c, maxFrom+1, maxFrom+2))
	wantNoCurve(t, api.ErrRange)(curve.Part(c, maxFrom+2, maxFrom+2))
	wantNoCurve(t, api.ErrNone)(curve.Part(c, maxFrom+3, maxFrom+3))
	wantNoCurve(t, api.ErrNone)(curve.Part(c, maxFrom+2, maxFrom+1))
	up := cv(0, maxFirst-1, 1, 1)
	wantCurve(t, cv(1, maxFirst, 1))(curve.Part(up, 1, 2))
	wantNoCurve(t, api.ErrRange)(curve.Part(up, 2, 2))
	down := cv(0, -maxFirst+1, -1, -1)
	wantCurve(t, cv(1, -maxFirst, -1))(curve.Part(down, 1, 2))
	wantNoCurve(t, api.ErrRange)(curve.Part(down, 2, 2))
}

func TestConjRange(t *testing.T) {
	wantCurve(t, cv(0, maxFirst, 0))(curve.Conj(cv(0, -maxFirst), 0, 1))
	wantNoCurve(t, api.ErrRange)(curve.Conj(cv(1, -maxFirst), 1, 2))
	wantCurve(t, cv(1, maxFirst, 1))(curve.Conj(cv(1, -maxFirst+1), 1, 2))
	wantCurve(t, cv(0, -maxFirst, 0))(curve.Conj(cv(0, maxFirst), 0, 1))
	wantNoCurve(t, api.ErrRange)(curve.Conj(cv(-1, maxFirst), 1, 2))
	wantCurve(t, cv(1, -maxFirst, -1))(curve.Conj(cv(-1, maxFirst-1), 1, 2))
	wantNoCurve(t, api.ErrRange)(curve.Conj(cv(0, -maxFirst, -1), 0, 0))
	// A slope of the result is where the greatest is had: that may be above 2^20.
	wantCurve(t, cv(1, maxFrom, maxFrom))(curve.Conj(cv(maxFrom, 0), 1, 2))
	wantCurve(t, cv(1, -maxFrom, -maxFrom))(curve.Conj(cv(-maxFrom, 0), 1, 2))
	wantCurve(t, cv(1, maxFrom, maxFrom))(curve.Conj(cv(maxFrom, 0, 2), 1, 2))
	wantNoCurve(t, api.ErrRange)(curve.Conj(cv(maxFrom, 0, 1), 1, 2))
	wantNoCurve(t, api.ErrRange)(curve.Conj(cv(maxFrom, 0, 2), 1, 3))
	wantCurve(t, cv(2, 2*maxFrom+2))(curve.Conj(cv(maxFrom, 0, 1, 1), 2, 2))
}

// ErrRange: just when what the model has is outside a limit, for curves with
// numbers at the ends of their limits.
func TestExtremes(t *testing.T) {
	d := dice(3)
	fine, outside := map[string]int{}, map[string]int{}
	count := func(name string, e api.Errno) {
		switch e {
		case api.OK:
			fine[name]++
		case api.ErrRange:
			outside[name]++
		}
	}
	for range 10000 {
		a, b := d.extreme(5), d.extreme(5)
		if d.next(2) == 0 {
			b.From = max(-maxFrom, min(a.From+d.next(11)-5, maxFrom))
		}
		lo, hi := a.From-3, toOf(a)+3
		p, x, y := d.near(maxSlope), d.near(maxFrom), d.near(maxFirst)
		count("Add", wantPlotted(t, lo, hi, addOf(a, b))(curve.Add(a, b)))
		count("Join", wantPlotted(t, lo+b.From, hi+toOf(b), joinOf(a, b))(curve.Join(a, b)))
		count("Flip", wantPlotted(t, -hi, -lo, flipOf(a))(curve.Flip(a)))
		count("Tilt", wantPlotted(t, lo, hi, tiltOf(a, p))(curve.Tilt(a, p)))
		count("Move", wantPlotted(t, lo+x, hi+x, moveOf(a, x, y))(curve.Move(a, x, y)))
		from, to := lo+d.next(hi-lo+1), lo+d.next(hi-lo+1)
		count("Part", wantPlotted(t, lo, hi, partOf(a, from, to))(curve.Part(a, from, to)))
		q := min(maxSlope, p+d.next(6))
		count("Conj", wantPlotted(t, p, q, conjOf(a))(curve.Conj(a, p, q)))
	}
	for _, name := range []string{"Add", "Join", "Flip", "Tilt", "Move", "Part", "Conj"} {
		if fine[name] < 300 || outside[name] < 300 {
			t.Errorf("%s: %d are within the limits, %d outside", name, fine[name], outside[name])
		}
	}
}
