package curve

import "kimberlite/api"

// walker goes along a curve, upwards: it is at x, where the curve has that value.
type walker struct {
	api.Curve
	x, value int
}

// Bottom returns the least value of c, and the first and the last number at
// which c has it.
func Bottom(c api.Curve) (int, int, int, api.Errno) {
	if !Valid(c) {
		return 0, 0, 0, api.ErrArg
	}
	w := at(c, c.From)
	w.climb(0)
	least, first := w.value, w.x
	w.climb(1)
	return least, first, w.x, api.OK
}

// Conj returns the curve that has at each p from lo to hi the greatest p*x - c(x).
func Conj(c api.Curve, lo, hi int) (api.Curve, api.Errno) {
	if !Valid(c) || !within(lo, api.MaxSlope) || hi < lo || hi > min(lo+api.MaxSlopes, api.MaxSlope) {
		return api.Curve{}, api.ErrArg
	}
	w := at(c, c.From)
	w.climb(lo)
	conj := api.Curve{From: lo, First: lo*w.x - w.value}
	for p := lo + 1; p <= hi; p++ {
		// Where p*x - c(x) is greatest first, it is greatest for p - 1 too (no
		// slope is between the two), so from p - 1 to p it grows by x.
		w.climb(p)
		conj.Slopes = append(conj.Slopes, w.x)
	}
	return result(conj)
}

// Meet returns the least sum of a and b, the first number at which it is had,
// and the least price at which a offers just as much as b asks for.
func Meet(a, b api.Curve) (int, int, int, api.Errno) {
	if !Valid(a) || !Valid(b) {
		return 0, 0, 0, api.ErrArg
	}
	lo, hi := domain(a, b)
	if lo > hi {
		return 0, 0, 0, api.ErrNone
	}
	u, v := at(a, lo), at(b, lo)
	for u.x < hi && u.after()+v.after() < 0 {
		u.step()
		v.step()
	}
	return u.value + v.value, u.x, max(u.before(), -v.after()), api.OK
}

// Split divides total among the curves of l at the least cost; it returns the
// shares, the cost, and the least price at which each would offer its share.
func Split(l []api.Curve, total int) ([]int, int, int, api.Errno) {
	if e := checkSplit(l, total); e != api.OK {
		return nil, 0, 0, e
	}
	price := -api.MaxSlope
	if steps := total - common(l, fromOf, plus); steps > 0 {
		price = allSlopes(l...)[steps-1]
	}
	left := total
	walkers := make([]walker, len(l))
	for i, c := range l {
		walkers[i] = at(c, c.From)
		walkers[i].climb(price)
		left -= walkers[i].x
	}
	// What is left are steps that cost just the price, whoever takes them: the
	// last curves do, since the least division gives little to the first ones.
	shares := make([]int, len(l))
	for i := len(l) - 1; i >= 0; i-- {
		w := &walkers[i]
		for left > 0 && w.x < toOf(w.Curve) && w.after() == price {
			w.step()
			left--
		}
		shares[i] = w.x
	}
	cost := common(walkers, func(w walker) int { return w.value }, plus)
	return shares, cost, price, api.OK
}

// checkSplit returns the error of Split.
func checkSplit(l []api.Curve, total int) api.Errno {
	if len(l) > api.MaxCurves {
		return api.ErrLimit
	}
	if len(l) == 0 {
		return api.ErrArg
	}
	both := func(a, b bool) bool { return a && b }
	if !common(l, Valid, both) {
		return api.ErrArg
	}
	if total < common(l, fromOf, plus) || total > common(l, toOf, plus) {
		return api.ErrPlan
	}
	return api.OK
}

func plus(a, b int) int { return a + b }

// at returns a walker at x, which is in the domain of c.
func at(c api.Curve, x int) walker {
	w := walker{Curve: c, x: c.From, value: c.First}
	for w.x < x {
		w.step()
	}
	return w
}

// step goes on by one number.
func (w *walker) step() {
	w.value += w.after()
	w.x++
}

// climb goes on to the first number behind which no step rises by less than p:
// none of the curve's numbers has less of c(y) - p*y.
func (w *walker) climb(p int) {
	for w.x < toOf(w.Curve) && w.after() < p {
		w.step()
	}
}

// before returns the slope before x. At the end of the domain, where none is, it
// returns the least price, so that no price is too low.
func (w *walker) before() int {
	if w.x == w.From {
		return -api.MaxSlope
	}
	return w.Slopes[w.x-w.From-1]
}

// after returns the slope behind x. At the end of the domain, where none is, it
// returns the greatest price, so that no price is too high.
func (w *walker) after() int {
	if w.x == toOf(w.Curve) {
		return api.MaxSlope
	}
	return w.Slopes[w.x-w.From]
}
