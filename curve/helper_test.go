package curve_test

import (
	"slices"
	"testing"

	"kimberlite/api"
)

const (
	maxInt = int(^uint(0) >> 1)
	minInt = -maxInt - 1

	maxFrom   = api.MaxFrom
	maxFirst  = api.MaxFirst
	maxSlope  = api.MaxSlope
	maxSlopes = api.MaxSlopes
)

// cv makes a curve.
func cv(from, first int, slopes ...int) api.Curve {
	return api.Curve{From: from, First: first, Slopes: slopes}
}

// flat makes a curve of n slopes that are all the same.
func flat(from, first, n, slope int) api.Curve {
	return cv(from, first, slices.Repeat([]int{slope}, n)...)
}

// toOf is To of the chapter.
func toOf(c api.Curve) int { return c.From + len(c.Slopes) }

// valueOf is the value of c at x, if x is in its domain: First, and the slopes
// up to there.
func valueOf(c api.Curve, x int) (int, bool) {
	if x < c.From || x > toOf(c) {
		return 0, false
	}
	v := c.First
	for i, s := range c.Slopes {
		if c.From+i < x {
			v += s
		}
	}
	return v, true
}

// valuesOf is all values of c.
func valuesOf(c api.Curve) []int {
	var out []int
	for x := c.From; x <= toOf(c); x++ {
		v, _ := valueOf(c, x)
		out = append(out, v)
	}
	return out
}

// made is the curve of these values, valid or not.
func made(from int, values []int) api.Curve {
	c := cv(from, values[0])
	for i := 1; i < len(values); i++ {
		c.Slopes = append(c.Slopes, values[i]-values[i-1])
	}
	return c
}

// plotted is the curve of what f has from lo to hi, and whether it has anything;
// it fails if f has a gap there.
func plotted(t *testing.T, lo, hi int, f func(int) (int, bool)) (api.Curve, bool) {
	t.Helper()
	from, values := 0, []int(nil)
	for x := lo; x <= hi; x++ {
		v, ok := f(x)
		if !ok {
			continue
		}
		if len(values) == 0 {
			from = x
		}
		if x != from+len(values) {
			t.Fatalf("the model has a gap at %d", x)
		}
		values = append(values, v)
	}
	if len(values) == 0 {
		return api.Curve{}, false
	}
	return made(from, values), true
}

// isValid is what the chapter calls valid.
func isValid(c api.Curve) bool {
	if c.From < -maxFrom || c.From > maxFrom || c.First < -maxFirst || c.First > maxFirst || len(c.Slopes) > maxSlopes {
		return false
	}
	for i, s := range c.Slopes {
		if s < -maxSlope || s > maxSlope || i > 0 && s < c.Slopes[i-1] {
			return false
		}
	}
	return true
}

// notValid are curves that are not valid: each limit broken, in each place.
func notValid() []api.Curve {
	var l []api.Curve
	for _, n := range []int{maxFrom + 1, -maxFrom - 1, minInt, maxInt} {
		l = append(l, cv(n, 0), cv(n, 0, 1, 2), cv(n, n), cv(n, 0, n))
	}
	for _, n := range []int{maxFirst + 1, -maxFirst - 1, minInt, maxInt} {
		l = append(l, cv(0, n), cv(3, n, -1, 2))
	}
	for _, n := range []int{maxSlope + 1, maxInt} {
		l = append(l, cv(0, 0, n), cv(0, 0, 1, n), cv(0, 0, 1, 2, 3, n), cv(0, 0, n, n))
	}
	for _, n := range []int{-maxSlope - 1, minInt} {
		l = append(l, cv(0, 0, n), cv(0, 0, n, 1), cv(0, 0, n, 1, 2, 3), cv(0, 0, n, n))
	}
	l = append(l, cv(0, 0, 2, 1), cv(0, 0, 1, 0, 1), cv(0, 0, 1, 2, 3, 2), cv(0, 0, 0, -1, -2), cv(0, 0, minInt, maxInt))
	l = append(l, cv(0, 0, maxSlope, -maxSlope), cv(0, 0, maxInt, minInt))
	return append(l, flat(0, 0, maxSlopes+1, 0), flat(0, 0, maxSlopes+1, 1), flat(0, 0, 2*maxSlopes, -1))
}

// smallCurves are all curves of up to three slopes from -2 to 2, from some
// numbers on.
func smallCurves(froms ...int) []api.Curve {
	runs := [][]int{{}}
	for done := 0; done < len(runs); done++ {
		if run := runs[done]; len(run) < 3 {
			for s := -2; s <= 2; s++ {
				if len(run) == 0 || run[len(run)-1] <= s {
					runs = append(runs, append(slices.Clone(run), s))
				}
			}
		}
	}
	var l []api.Curve
	for _, from := range froms {
		for i, run := range runs {
			l = append(l, cv(from, i%5-2, run...))
		}
	}
	return l
}

// same reports whether two curves are the same one.
func same(a, b api.Curve) bool {
	return a.From == b.From && a.First == b.First && slices.Equal(a.Slopes, b.Slopes)
}

// wantCurve fails unless the call gave just this curve.
func wantCurve(t *testing.T, want api.Curve) func(api.Curve, api.Errno) {
	return func(got api.Curve, e api.Errno) {
		t.Helper()
		if e != api.OK || !same(got, want) {
			t.Fatalf("got %v, error %d; want %v", got, e, want)
		}
	}
}

// wantNoCurve fails unless the call gave this error, and nothing of a curve.
func wantNoCurve(t *testing.T, want api.Errno) func(api.Curve, api.Errno) {
	return func(got api.Curve, e api.Errno) {
		t.Helper()
		if e != want || !same(got, api.Curve{}) {
			t.Fatalf("got %v, error %d; want error %d and no curve", got, e, want)
		}
	}
}

// wantMade fails unless the call gave the curve of these values, or ErrRange if
// that one is not valid; it reports whether it is.
func wantMade(t *testing.T, from int, values []int) func(api.Curve, api.Errno) bool {
	return func(got api.Curve, e api.Errno) bool {
		t.Helper()
		want := made(from, values)
		if isValid(want) {
			wantCurve(t, want)(got, e)
			return true
		}
		wantNoCurve(t, api.ErrRange)(got, e)
		return false
	}
}

// wantValue fails unless At gave just this.
func wantValue(t *testing.T, want int, wantE api.Errno) func(int, api.Errno) {
	return func(got int, e api.Errno) {
		t.Helper()
		if got != want || e != wantE {
			t.Fatalf("got %d, error %d; want %d, error %d", got, e, want, wantE)
		}
	}
}

// wantThree fails unless Bottom or Meet gave just this.
func wantThree(t *testing.T, a, b, c int, want api.Errno) func(int, int, int, api.Errno) {
	return func(gotA, gotB, gotC int, e api.Errno) {
		t.Helper()
		if gotA != a || gotB != b || gotC != c || e != want {
			t.Fatalf("got %d, %d, %d, error %d; want %d, %d, %d, error %d", gotA, gotB, gotC, e, a, b, c, want)
		}
	}
}

// wantSplit fails unless Split gave just this.
func wantSplit(t *testing.T, shares []int, sum, price int) func([]int, int, int, api.Errno) {
	return func(got []int, gotSum, gotPrice int, e api.Errno) {
		t.Helper()
		if !slices.Equal(got, shares) || gotSum != sum || gotPrice != price || e != api.OK {
			t.Fatalf("got %v, %d, %d, error %d; want %v, %d, %d", got, gotSum, gotPrice, e, shares, sum, price)
		}
	}
}

// wantNoSplit fails unless Split gave this error, and nothing else.
func wantNoSplit(t *testing.T, want api.Errno) func([]int, int, int, api.Errno) {
	return func(got []int, sum, price int, e api.Errno) {
		t.Helper()
		if len(got) != 0 || sum != 0 || price != 0 || e != want {
			t.Fatalf("got %v, %d, %d, error %d; want error %d and nothing else", got, sum, price, e, want)
		}
	}
}

// must returns the curve of a call that must not fail.
func must(t *testing.T) func(api.Curve, api.Errno) api.Curve {
	return func(got api.Curve, e api.Errno) api.Curve {
		t.Helper()
		if e != api.OK {
			t.Fatalf("error %d", e)
		}
		return got
	}
}

// dice gives numbers that are always the same ones.
type dice uint64

// next is a number from 0 to n - 1.
func (d *dice) next(n int) int {
	*d = *d*6364136223846793005 + 1442695040888963407
	return int(*d>>33) % n
}

// near is a number from -most to most, often one at an end, or 0.
func (d *dice) near(most int) int {
	switch d.next(5) {
	case 0:
		return -most + d.next(3)
	case 1:
		return most - d.next(3)
	case 2:
		return d.next(3) - 1
	}
	return (d.next(1<<31)<<30|d.next(1<<30))%(2*most+1) - most
}

// curve is a curve of up to most slopes, from -steep to steep.
func (d *dice) curve(most, steep int) api.Curve {
	c := cv(d.next(7)-3, d.next(21)-10)
	for range d.next(most + 1) {
		c.Slopes = append(c.Slopes, d.next(2*steep+1)-steep)
	}
	slices.Sort(c.Slopes)
	return c
}

// extreme is a curve of up to most slopes, with numbers at the ends of their limits.
func (d *dice) extreme(most int) api.Curve {
	c := cv(d.near(maxFrom), d.near(maxFirst))
	for range d.next(most + 1) {
		c.Slopes = append(c.Slopes, d.near(maxSlope))
	}
	slices.Sort(c.Slopes)
	return c
}
