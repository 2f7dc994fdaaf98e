package curve_test

import (
	"slices"
	"testing"

	"kimberlite/api"
	"kimberlite/curve"
)

// bottomOf is P3.3 in its own words.
func bottomOf(c api.Curve) (least, first, last int) {
	values := valuesOf(c)
	least = slices.Min(values)
	for i, v := range values {
		if v == least {
			last = c.From + i
		}
	}
	return least, c.From + slices.Index(values, least), last
}

// P3.3: the least value, and the first and the last number that has it.
func TestBottom(t *testing.T) {
	l := append(smallCurves(-2, 0, 3), flat(0, 5, maxSlopes, 0), flat(0, 5, maxSlopes, maxSlope), flat(0, 5, maxSlopes, -maxSlope))
	d := dice(1)
	for range 2000 {
		l = append(l, d.curve(maxSlopes, 3), d.extreme(maxSlopes))
	}
	for _, c := range l {
		least, first, last := bottomOf(c)
		wantThree(t, least, first, last, api.OK)(curve.Bottom(c))
	}
	wantThree(t, 7, 4, 4, api.OK)(curve.Bottom(cv(4, 7)))
	wantThree(t, 5, 0, maxSlopes, api.OK)(curve.Bottom(flat(0, 5, maxSlopes, 0)))
	wantThree(t, 5, 1, 3, api.OK)(curve.Bottom(cv(0, 7, -2, 0, 0, 1)))
	// The least value may be less than any first one.
	c := flat(maxFrom, -maxFirst, maxSlopes, -maxSlope)
	wantThree(t, -maxFirst-maxSlopes*maxSlope, maxFrom+maxSlopes, maxFrom+maxSlopes, api.OK)(curve.Bottom(c))
}

// most is the greatest p*x - c(x), over all x of c's domain.
func most(c api.Curve, p int) int {
	best := p*c.From - c.First
	for i, v := range valuesOf(c) {
		best = max(best, p*(c.From+i)-v)
	}
	return best
}

// conjOf is P3.4 in its own words.
func conjOf(c api.Curve) func(int) (int, bool) {
	return func(p int) (int, bool) { return most(c, p), true }
}

// P3.4: the greatest p*x - c(x), of all small curves, from any lo to any hi.
func TestConj(t *testing.T) {
	for _, c := range smallCurves(-3, 0, 2) {
		for lo := -5; lo <= 5; lo++ {
			for hi := lo; hi <= 6; hi++ {
				wantPlotted(t, lo, hi, conjOf(c))(curve.Conj(c, lo, hi))
			}
		}
	}
	d := dice(8)
	for range 2000 {
		c := d.curve(maxSlopes, 40)
		lo := d.next(90) - 60
		hi := lo + d.next(maxSlopes+1)
		wantPlotted(t, lo, hi, conjOf(c))(curve.Conj(c, lo, hi))
	}
	wantCurve(t, made(0, []int{0, 0, 1, 2, 4}))(curve.Conj(cv(0, 0, 1, 3), 0, 4))
}

// P3.4: lo is within the limits of a slope, hi from lo to 64 above it.
func TestConjArgs(t *testing.T) {
	for _, c := range []api.Curve{{}, cv(0, 0, 1, 3), cv(-3, 5, -2, 0, 7, maxSlope), cv(0, maxFirst), cv(maxFrom, -maxFirst)} {
		for _, lo := range []int{-maxSlope, -7, 0, 5, maxSlope - maxSlopes} {
			for _, more := range []int{0, 1, maxSlopes - 1, maxSlopes} {
				wantPlotted(t, lo, lo+more, conjOf(c))(curve.Conj(c, lo, lo+more))
			}
			for _, hi := range []int{lo - 1, lo - 64, lo + maxSlopes + 1, minInt, maxInt, minInt + lo, maxInt - maxSlope} {
				wantNoCurve(t, api.ErrArg)(curve.Conj(c, lo, hi))
			}
		}
		for more := range 4 {
			lo := maxSlope - more
			wantPlotted(t, lo, maxSlope, conjOf(c))(curve.Conj(c, lo, maxSlope))
			wantNoCurve(t, api.ErrArg)(curve.Conj(c, lo, maxSlope+1))
			wantNoCurve(t, api.ErrArg)(curve.Conj(c, lo, lo-1))
		}
		wantNoCurve(t, api.ErrArg)(curve.Conj(c, maxSlope-63, maxSlope+1))
		for _, lo := range []int{-maxSlope - 1, -maxSlope - maxSlopes, maxSlope + 1, minInt, maxInt, maxInt - 3, minInt + 1} {
			for _, hi := range []int{lo, lo + 1, lo + maxSlopes, lo - 1, 0, -maxSlope, maxSlope, minInt, maxInt} {
				wantNoCurve(t, api.ErrArg)(curve.Conj(c, lo, hi))
			}
		}
	}
	if c := must(t)(curve.Conj(cv(0, 0), -32, 32)); !same(c, flat(-32, 0, maxSlopes, 0)) {
		t.Errorf("got %v", c)
	}
}

// offers reports whether c(y) - p*y is least, over all y of c's domain, at x.
func offers(c api.Curve, x, p int) bool {
	v, ok := valueOf(c, x)
	return ok && v-p*x == -most(c, p)
}

// isPrice reports whether p is a price for a and b at x: what P3.5 asks for.
func isPrice(a, b api.Curve, x, p int) bool {
	return offers(a, x, p) && offers(b, x, -p)
}

// checkMeet holds Meet against P3.5: the prices of one x are in a row, so the
// smallest one is the one before which none is.
func checkMeet(t *testing.T, a, b api.Curve) {
	t.Helper()
	v, x, p, e := curve.Meet(a, b)
	least, at, any := 0, 0, false
	for y := a.From; y <= toOf(a); y++ {
		if w, ok := addOf(a, b)(y); ok && (!any || w < least) {
			least, at, any = w, y, true
		}
	}
	if !any {
		wantThree(t, 0, 0, 0, api.ErrNone)(v, x, p, e)
		return
	}
	wantThree(t, least, at, p, api.OK)(v, x, p, e)
	if p < -maxSlope || p > maxSlope || !isPrice(a, b, x, p) {
		t.Fatalf("%v and %v meet at %d: %d is no price", a, b, x, p)
	}
	if p > -maxSlope && isPrice(a, b, x, p-1) {
		t.Fatalf("%v and %v meet at %d: %d is not the smallest price", a, b, x, p)
	}
}

// P3.5: all small curves with each other, and long and extreme ones.
func TestMeet(t *testing.T) {
	for _, a := range smallCurves(0) {
		for _, b := range smallCurves(-2, 0, 1, 3, 4) {
			checkMeet(t, a, b)
			checkMeet(t, b, a)
		}
	}
	d := dice(5)
	for range 3000 {
		a, b := d.curve(maxSlopes, 9), d.curve(maxSlopes, 9)
		b.From = a.From - 20 + d.next(41)
		checkMeet(t, a, b)
		a, b = d.extreme(maxSlopes), d.extreme(maxSlopes)
		b.From = max(-maxFrom, min(a.From-20+d.next(41), maxFrom))
		checkMeet(t, a, b)
	}
}

// P3.5: where there is one price only, where all are, and at the ends.
func TestMeetPrices(t *testing.T) {
	wantThree(t, -1, 1, 2, api.OK)(curve.Meet(cv(0, 0, 1, 3), cv(0, 0, -2, -2)))
	wantThree(t, 12, 4, -maxSlope, api.OK)(curve.Meet(cv(4, 5), cv(4, 7)))
	wantThree(t, 0, 0, -maxSlope, api.OK)(curve.Meet(cv(0, 0, maxSlope), cv(0, 0, maxSlope)))
	wantThree(t, -2*maxSlope, 1, -maxSlope, api.OK)(curve.Meet(cv(0, 0, -maxSlope), cv(0, 0, -maxSlope)))
	wantThree(t, 0, 0, maxSlope, api.OK)(curve.Meet(cv(0, 0), cv(0, 0, -maxSlope)))
	wantThree(t, maxSlope, 1, maxSlope, api.OK)(curve.Meet(cv(0, 0, maxSlope), cv(1, 0)))
	wantThree(t, maxSlope, 1, -maxSlope, api.OK)(curve.Meet(cv(1, 0), cv(0, 0, maxSlope, maxSlope)))
	wantThree(t, 0, 0, 0, api.OK)(curve.Meet(cv(0, 0, 0, 0), cv(0, 0, 0, 0)))
	// The sum may be outside the limits of a curve.
	wantThree(t, 2*maxFirst, 0, -5, api.OK)(curve.Meet(cv(0, maxFirst, 1), cv(0, maxFirst, 5)))
	wantThree(t, -2*maxFirst-7, 1, -3, api.OK)(curve.Meet(cv(0, -maxFirst, -4), cv(0, -maxFirst, -3, 3)))
}

// P3.5: the smallest of all prices, tried one by one from the least on.
func TestMeetAllPrices(t *testing.T) {
	const low = -maxSlope + 5
	for _, a := range smallCurves(0) {
		for _, b := range smallCurves(-1, 1) {
			a, b := must(t)(curve.Tilt(a, low)), must(t)(curve.Tilt(b, -low))
			v, x, p, e := curve.Meet(a, b)
			if e == api.ErrNone {
				continue
			}
			want := -maxSlope
			for want < maxSlope && !isPrice(a, b, x, want) {
				want++
			}
			wantThree(t, v, x, want, api.OK)(v, x, p, e)
		}
	}
}

// P3.5: ErrNone if no number is in both domains.
func TestMeetNone(t *testing.T) {
	a := cv(0, 10, 1, 2, 3)
	wantThree(t, 16+20, 3, 3, api.OK)(curve.Meet(a, cv(3, 20, 4)))
	wantThree(t, 10+27, 0, -maxSlope, api.OK)(curve.Meet(a, cv(-2, 20, 3, 4)))
	for _, b := range []api.Curve{cv(4, 20, 4), cv(-3, 20, 3, 4), cv(maxFrom, 0), cv(-maxFrom, 0, 1)} {
		wantThree(t, 0, 0, 0, api.ErrNone)(curve.Meet(a, b))
		wantThree(t, 0, 0, 0, api.ErrNone)(curve.Meet(b, a))
	}
}

// sums is the sums of the Froms and of the Tos.
func sums(l []api.Curve) (lo, hi int) {
	for _, c := range l {
		lo, hi = lo+c.From, hi+toOf(c)
	}
	return lo, hi
}

// costOf is the sum of the values at x, and whether each is in its domain.
func costOf(l []api.Curve, x []int) (int, bool) {
	sum, ok := 0, len(x) == len(l)
	for i := range min(len(x), len(l)) {
		v, in := valueOf(l[i], x[i])
		sum, ok = sum+v, ok && in
	}
	return sum, ok
}

// divided tries all divisions of total, in lexicographic order, and returns the
// first one of the least sum, and that sum.
func divided(l []api.Curve, total int) (best []int, least int) {
	x := make([]int, len(l))
	var try func(i, left, sum int)
	try = func(i, left, sum int) {
		if i == len(l) {
			if left == 0 && (best == nil || sum < least) {
				best, least = slices.Clone(x), sum
			}
			return
		}
		for n, v := range valuesOf(l[i]) {
			x[i] = l[i].From + n
			try(i+1, left-x[i], sum+v)
		}
	}
	try(0, total, 0)
	return best, least
}

// isSplitPrice reports whether p is a price for the division x: what P3.6 asks for.
func isSplitPrice(l []api.Curve, x []int, p int) bool {
	for i, c := range l {
		if !offers(c, x[i], p) {
			return false
		}
	}
	return true
}

// checkPrice fails unless p is the smallest price of the division x.
func checkPrice(t *testing.T, l []api.Curve, x []int, p int) {
	t.Helper()
	if p < -maxSlope || p > maxSlope || !isSplitPrice(l, x, p) {
		t.Fatalf("%v as %v: %d is no price", l, x, p)
	}
	if p > -maxSlope && isSplitPrice(l, x, p-1) {
		t.Fatalf("%v as %v: %d is not the smallest price", l, x, p)
	}
}

// checkSplit holds Split against P3.6, for lists of few divisions.
func checkSplit(t *testing.T, l []api.Curve, total int) {
	t.Helper()
	x, sum, p, e := curve.Split(l, total)
	best, least := divided(l, total)
	if best == nil {
		wantNoSplit(t, api.ErrPlan)(x, sum, p, e)
		return
	}
	wantSplit(t, best, least, p)(x, sum, p, e)
	checkPrice(t, l, x, p)
}

// P3.6: all small curves, alone and with each other, and all totals.
func TestSplitSmall(t *testing.T) {
	few := smallCurves(0)
	for _, a := range few {
		for total := -2; total <= 5; total++ {
			checkSplit(t, []api.Curve{a}, total)
		}
		for _, b := range smallCurves(-1) {
			for total := -3; total <= 7; total++ {
				checkSplit(t, []api.Curve{a, b}, total)
			}
		}
	}
	d := dice(6)
	for range 2500 {
		var l []api.Curve
		for range 3 + d.next(3) {
			l = append(l, d.curve(4, 1+d.next(3)))
		}
		lo, hi := sums(l)
		for total := lo - 1; total <= hi+1; total += 1 + d.next(3) {
			checkSplit(t, l, total)
		}
	}
}

// checkLong holds Split against P3.6 for any list: with a price for it no
// division has a smaller sum (P3.11), and none of the same sum comes before it if no
// curve can give a step to a later one that costs it just as much.
func checkLong(t *testing.T, l []api.Curve, total int) {
	t.Helper()
	x, sum, p, e := curve.Split(l, total)
	if lo, hi := sums(l); total < lo || total > hi {
		wantNoSplit(t, api.ErrPlan)(x, sum, p, e)
		return
	}
	want, ok := costOf(l, x)
	if e != api.OK || !ok || sum != want {
		t.Fatalf("%v: %d is split as %v, %d, error %d", l, total, x, sum, e)
	}
	for i, n := range x {
		total -= n
		for j := i + 1; j < len(x); j++ {
			if n > l[i].From && x[j] < toOf(l[j]) && l[i].Slopes[n-l[i].From-1] >= l[j].Slopes[x[j]-l[j].From] {
				t.Fatalf("%v is split as %v, but %d can give to %d", l, x, i, j)
			}
		}
	}
	if total != 0 {
		t.Fatalf("%v: what is left of %v is %d", l, x, total)
	}
	checkPrice(t, l, x, p)
}

// P3.6: long and extreme lists.
func TestSplitLong(t *testing.T) {
	d := dice(7)
	for i := range 3000 {
		var l []api.Curve
		for range 1 + d.next(api.MaxCurves) {
			if i%2 == 0 {
				l = append(l, d.curve(maxSlopes, 6))
			} else {
				l = append(l, d.extreme(maxSlopes))
			}
		}
		lo, hi := sums(l)
		checkLong(t, l, lo+d.next(hi-lo+1))
		for _, total := range []int{lo, lo + 1, hi - 1, hi} {
			checkLong(t, l, total)
		}
	}
}

// P3.6: the example, ties, and the ends of the prices.
func TestSplitTies(t *testing.T) {
	a, b := cv(0, 0, 1, 3), cv(0, 0, 2, 2)
	wantSplit(t, []int{1, 2}, 5, 2)(curve.Split([]api.Curve{a, b}, 3))
	wantSplit(t, []int{0, 0}, 0, -maxSlope)(curve.Split([]api.Curve{a, b}, 0))
	wantSplit(t, []int{1, 0}, 1, 1)(curve.Split([]api.Curve{a, b}, 1))
	wantSplit(t, []int{1, 1}, 3, 2)(curve.Split([]api.Curve{a, b}, 2))
	wantSplit(t, []int{2, 2}, 8, 3)(curve.Split([]api.Curve{a, b}, 4))
	wantSplit(t, []int{5}, 7, -maxSlope)(curve.Split([]api.Curve{cv(5, 7)}, 5))
	c := flat(0, 0, 2, 4)
	for total, want := range [][]int{{0, 0, 0}, {0, 0, 1}, {0, 0, 2}, {0, 1, 2}, {0, 2, 2}, {1, 2, 2}, {2, 2, 2}} {
		price := 4
		if total == 0 {
			price = -maxSlope
		}
		wantSplit(t, want, 4*total, price)(curve.Split([]api.Curve{c, c, c}, total))
	}
	for _, s := range []int{maxSlope, -maxSlope} {
		point, step := cv(0, 0), cv(0, 0, s)
		wantSplit(t, []int{1, 0}, s, s)(curve.Split([]api.Curve{step, point}, 1))
		wantSplit(t, []int{0, 1}, s, s)(curve.Split([]api.Curve{point, step}, 1))
		wantSplit(t, []int{0, 1}, s, s)(curve.Split([]api.Curve{step, step}, 1))
		wantSplit(t, []int{0, 0}, 0, -maxSlope)(curve.Split([]api.Curve{step, step}, 0))
	}
}

// P3.6: none, 8 and 9 curves, and the errors in their order.
func TestSplitErrors(t *testing.T) {
	for _, total := range []int{0, 1, minInt, maxInt} {
		wantNoSplit(t, api.ErrArg)(curve.Split(nil, total))
		wantNoSplit(t, api.ErrArg)(curve.Split([]api.Curve{}, total))
	}
	l := slices.Repeat([]api.Curve{cv(1, 1, 1)}, api.MaxCurves)
	wantSplit(t, []int{1, 1, 1, 1, 1, 1, 1, 2}, 9, 1)(curve.Split(l, 9))
	for _, total := range []int{7, 17, -9, minInt, maxInt} {
		wantNoSplit(t, api.ErrPlan)(curve.Split(l, total))
	}
	for _, c := range append(notValid(), cv(0, 0)) {
		wantNoSplit(t, api.ErrLimit)(curve.Split(append(slices.Clone(l), c), 9))
		wantNoSplit(t, api.ErrLimit)(curve.Split(append([]api.Curve{c}, l...), minInt))
		wantNoSplit(t, api.ErrLimit)(curve.Split(slices.Repeat([]api.Curve{c}, api.MaxCurves+1), 0))
	}
	for _, c := range notValid() {
		for i := range l {
			m := slices.Clone(l)
			m[i] = c
			for _, total := range []int{9, 0, minInt, maxInt} {
				wantNoSplit(t, api.ErrArg)(curve.Split(m, total))
			}
		}
	}
}

// P3.6: sums outside the limits of a curve, and 512 slopes.
func TestSplitGreat(t *testing.T) {
	l := slices.Repeat([]api.Curve{flat(maxFrom, maxFirst, maxSlopes, maxSlope)}, api.MaxCurves)
	lo, hi := sums(l)
	low, high := slices.Repeat([]int{maxFrom}, 8), slices.Repeat([]int{maxFrom + maxSlopes}, 8)
	wantSplit(t, low, 8*maxFirst, -maxSlope)(curve.Split(l, lo))
	wantSplit(t, high, 8*maxFirst+512*maxSlope, maxSlope)(curve.Split(l, hi))
	wantNoSplit(t, api.ErrPlan)(curve.Split(l, lo-1))
	wantNoSplit(t, api.ErrPlan)(curve.Split(l, hi+1))
	low[7] = maxFrom + 1
	wantSplit(t, low, 8*maxFirst+maxSlope, maxSlope)(curve.Split(l, lo+1))
	high[0]--
	wantSplit(t, high, 8*maxFirst+511*maxSlope, maxSlope)(curve.Split(l, hi-1))
	l = slices.Repeat([]api.Curve{flat(-maxFrom, -maxFirst, maxSlopes, -maxSlope)}, api.MaxCurves)
	lo, hi = sums(l)
	low, high = slices.Repeat([]int{-maxFrom}, 8), slices.Repeat([]int{-maxFrom + maxSlopes}, 8)
	wantSplit(t, low, -8*maxFirst, -maxSlope)(curve.Split(l, lo))
	wantSplit(t, high, -8*maxFirst-512*maxSlope, -maxSlope)(curve.Split(l, hi))
}
