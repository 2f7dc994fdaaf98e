package curve_test

import (
	"slices"
	"testing"

	"kimberlite/api"
	"kimberlite/curve"
)

// P3.7: what Add, Join, Flip, Tilt, Move, Part and Conj return is valid. (That
// it has the right values is tested with P3.2 and P3.4.)
func TestResultsAreValid(t *testing.T) {
	d := dice(9)
	for range 20000 {
		a, b := d.extreme(maxSlopes), d.extreme(maxSlopes)
		if d.next(2) == 0 {
			a, b = d.curve(maxSlopes, 1<<d.next(20)), d.curve(maxSlopes, 1<<d.next(20))
		}
		p, x, y := d.near(maxSlope), d.near(maxFrom), d.near(maxFirst)
		valid := func(c api.Curve, e api.Errno) {
			t.Helper()
			if e == api.OK && (!isValid(c) || !curve.Valid(c)) {
				t.Fatalf("of %v and %v, %d, %d, %d: %v is not valid", a, b, p, x, y, c)
			}
		}
		valid(curve.Add(a, b))
		valid(curve.Join(a, b))
		valid(curve.Flip(a))
		valid(curve.Tilt(a, p))
		valid(curve.Move(a, x, y))
		valid(curve.Part(a, x, toOf(a)-d.next(5)))
		valid(curve.Conj(a, p, p+d.next(maxSlopes+1)))
	}
}

// P3.7: Join is commutative and associative, where it succeeds.
func TestJoinLaws(t *testing.T) {
	d := dice(10)
	done := 0
	for i := range 20000 {
		n := 1 + d.next(maxSlopes/2)
		a, b, c := d.curve(n, 5), d.curve(n, 5), d.curve(n, 5)
		if i%2 == 0 {
			a, b, c = d.extreme(n), d.extreme(n), d.extreme(n)
		}
		ab, e := curve.Join(a, b)
		if e != api.OK {
			wantNoCurve(t, api.ErrRange)(curve.Join(b, a))
			continue
		}
		wantCurve(t, ab)(curve.Join(b, a))
		bc, e := curve.Join(b, c)
		if e != api.OK {
			continue
		}
		left, e := curve.Join(ab, c)
		right, e2 := curve.Join(a, bc)
		if e != e2 || !same(left, right) {
			t.Fatalf("%v, %v and %v: %v, error %d, and %v, error %d", a, b, c, left, e, right, e2)
		}
		if e == api.OK {
			done++
		}
	}
	if done < 3000 {
		t.Errorf("only %d succeeded", done)
	}
}

// value returns what At returns, which must not fail.
func value(t *testing.T, c api.Curve, x int) int {
	t.Helper()
	v, e := curve.At(c, x)
	if e != api.OK {
		t.Fatalf("%v at %d: error %d", c, x, e)
	}
	return v
}

// twice fails unless the greatest of p*x - Conj(c, lo, hi)(p) is c(x), for every x.
func twice(t *testing.T, c api.Curve, lo, hi int) {
	t.Helper()
	conj := must(t)(curve.Conj(c, lo, hi))
	for x := c.From; x <= toOf(c); x++ {
		best := minInt
		for p := lo; p <= hi; p++ {
			best = max(best, p*x-value(t, conj, p))
		}
		if v := value(t, c, x); best != v {
			t.Fatalf("%v at %d: %d, by its conjugate from %d to %d %d", c, x, v, lo, hi, best)
		}
	}
}

// P3.8: c is the conjugate of its conjugate, if no slope is outside lo and hi.
func TestTwiceConjugate(t *testing.T) {
	for _, c := range smallCurves(-2, 0, 1) {
		lo, hi := -2, 2
		if n := len(c.Slopes); n > 0 {
			lo, hi = c.Slopes[0], c.Slopes[n-1]
		}
		twice(t, c, lo, hi)
		twice(t, c, lo-2, hi)
		twice(t, c, lo, hi+3)
		twice(t, c, hi-maxSlopes, hi)
	}
	d := dice(11)
	for range 400 {
		c := d.curve(maxSlopes, 20)
		twice(t, c, -20, 20)
		far := must(t)(curve.Tilt(c, 1000))
		twice(t, far, 980, 1020+d.next(20))
	}
	for _, c := range []api.Curve{cv(0, 0), cv(-4, 9), cv(7, -3), cv(30000, 5), cv(-30000, 5)} {
		for _, lo := range []int{-maxSlope, -100, 0, 17, maxSlope - 40} {
			twice(t, c, lo, lo)
			twice(t, c, lo, lo+40)
		}
	}
}

// P3.9: the conjugate of a join is the sum of the conjugates.
func TestConjugateOfJoin(t *testing.T) {
	check := func(a, b api.Curve, lo, hi int) bool {
		t.Helper()
		join, e := curve.Join(a, b)
		ca, e2 := curve.Conj(a, lo, hi)
		cb, e3 := curve.Conj(b, lo, hi)
		if e != api.OK || e2 != api.OK || e3 != api.OK {
			return false
		}
		one, e := curve.Conj(join, lo, hi)
		two, e2 := curve.Add(ca, cb)
		if e != e2 || !same(one, two) {
			t.Fatalf("%v and %v: %v, error %d, and %v, error %d", a, b, one, e, two, e2)
		}
		return e == api.OK
	}
	for _, a := range smallCurves(0) {
		for _, b := range smallCurves(-2, 1) {
			check(a, b, -4, 4)
		}
	}
	d := dice(12)
	done := 0
	for range 3000 {
		a, b := d.curve(maxSlopes/2, 40), d.curve(maxSlopes/2, 40)
		lo := d.next(90) - 60
		if check(a, b, lo, lo+d.next(maxSlopes+1)) {
			done++
		}
	}
	if done < 2900 {
		t.Errorf("only %d succeeded", done)
	}
}

// P3.9: the join of all curves of a split has its sum at total.
func TestJoinOfSplit(t *testing.T) {
	d := dice(13)
	for range 3000 {
		l := []api.Curve{d.curve(8, 1+d.next(9))}
		join := l[0]
		for range d.next(api.MaxCurves) {
			c := d.curve(8, 1+d.next(9))
			l = append(l, c)
			join = must(t)(curve.Join(join, c))
		}
		for total := join.From; total <= toOf(join); total++ {
			_, sum, _, e := curve.Split(l, total)
			if v := value(t, join, total); e != api.OK || v != sum {
				t.Fatalf("%v, total %d: the join has %d, the split %d, error %d", l, total, v, sum, e)
			}
		}
	}
}

// dual is what P3.10 says of a price: the negative of the sum of the greatest of
// q*y - a(y) and the greatest of -q*y - b(y).
func dual(a, b api.Curve, q int) int {
	return -(most(a, q) + most(b, -q))
}

// P3.10: the least sum is the dual of its price, and no other price has more.
func TestFenchel(t *testing.T) {
	check := func(a, b api.Curve, others []int) {
		t.Helper()
		v, x, p, e := curve.Meet(a, b)
		if e != api.OK {
			return
		}
		if sum := value(t, a, x) + value(t, b, x); v != sum || v != dual(a, b, p) {
			t.Fatalf("%v and %v: %d at %d; the sum is %d, the dual of %d is %d", a, b, v, x, sum, p, dual(a, b, p))
		}
		for _, q := range append(others, p-1, p+1) {
			if dual(a, b, q) > v {
				t.Fatalf("%v and %v: %d, but the dual of %d is %d", a, b, v, q, dual(a, b, q))
			}
		}
	}
	for _, a := range smallCurves(0) {
		for _, b := range smallCurves(-2, 0, 2) {
			check(a, b, []int{-5, -3, -2, -1, 0, 1, 2, 3, 5, -maxSlope, maxSlope})
		}
	}
	d := dice(14)
	for range 3000 {
		check(d.curve(maxSlopes, 30), d.curve(maxSlopes, 30), []int{d.next(60) - 30, d.next(60) - 30})
		a, b := d.extreme(maxSlopes), d.extreme(maxSlopes)
		b.From = max(-maxFrom, min(a.From-20+d.next(41), maxFrom))
		check(a, b, []int{d.near(maxSlope), d.near(maxSlope), d.near(maxSlope)})
	}
}

// P3.11: with its price, the least of c(y) - p*y of all curves and p*total make
// up Split's sum; and no division has less.
func TestNoBetterDivision(t *testing.T) {
	d := dice(15)
	for i := range 3000 {
		var l []api.Curve
		for range 1 + d.next(api.MaxCurves) {
			if i%2 == 0 {
				l = append(l, d.curve(maxSlopes, 30))
			} else {
				l = append(l, d.extreme(maxSlopes))
			}
		}
		lo, hi := sums(l)
		total := lo + d.next(hi-lo+1)
		x, sum, p, e := curve.Split(l, total)
		bound := p * total
		for _, c := range l {
			bound -= most(c, p)
		}
		if e != api.OK || bound != sum {
			t.Fatalf("%v, total %d: the sum is %d, the bound %d, error %d", l, total, sum, bound, e)
		}
		// Some other divisions: steps given from one curve to another one.
		for range 20 {
			other := slices.Clone(x)
			from, to, n := d.next(len(l)), d.next(len(l)), 1+d.next(3)
			other[from] -= n
			other[to] += n
			if cost, ok := costOf(l, other); ok && cost < sum {
				t.Fatalf("%v, total %d: %v costs %d, but %v %d", l, total, x, sum, other, cost)
			}
		}
	}
}
