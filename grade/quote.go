package grade

import (
	"slices"

	"kimberlite/api"
)

// Clash returns the indexes of two quotes whose prices go against their grades
// the most; -1 and -1 if no two do.
func Clash(l []api.Quote) (int, int, api.Errno) {
	if e := checkQuotes(l); e != api.OK {
		return 0, 0, e
	}
	i, j, _ := clash(l)
	return i, j, api.OK
}

// Level returns the lowest fit of least strain without a number below 0, and
// that strain.
func Level(l []api.Quote) ([]int, int, api.Errno) {
	if e := checkQuotes(l); e != api.OK {
		return nil, 0, e
	}
	// Two quotes that clash must come together: one of them goes at least half
	// of the way.
	_, _, most := clash(l)
	strain := (most + 1) / 2
	fit := highest(l, func(i, price int) bool {
		return slices.ContainsFunc(l, func(q api.Quote) bool {
			return q.Price == price && Below(q.Grade, l[i].Grade)
		})
	})
	for i, price := range fit {
		fit[i] = max(0, price-strain)
	}
	return fit, strain, api.OK
}

// Settle returns the lowest fit of least loss, and that loss.
func Settle(l []api.Quote) ([]int, int, api.Errno) {
	if e := checkQuotes(l); e != api.OK {
		return nil, 0, e
	}
	up := map[int][]bool{}
	for _, q := range l {
		up[q.Price] = risen(l, q.Price)
	}
	fit := highest(l, func(i, price int) bool { return up[price][i] })
	loss := 0
	for i, q := range l {
		loss += q.Weight * max(fit[i]-q.Price, q.Price-fit[i])
	}
	return fit, loss, api.OK
}

// checkQuotes returns the error of a list of quotes.
func checkQuotes(l []api.Quote) api.Errno {
	if len(l) > api.MaxQuotes {
		return api.ErrLimit
	}
	for _, q := range l {
		if !valid(q.Grade) || q.Price < 0 || q.Price > api.MaxPrice || q.Weight < 1 || q.Weight > api.MaxWeight {
			return api.ErrArg
		}
	}
	return api.OK
}

// clash returns the indexes that Clash returns, and by how much these two clash.
func clash(l []api.Quote) (first, second, most int) {
	first, second = -1, -1
	for i, p := range l {
		for j, q := range l {
			if d := p.Price - q.Price; d > most && Below(p.Grade, q.Grade) {
				first, second, most = i, j, d
			}
		}
	}
	return first, second, most
}

// highest returns for each quote the greatest price of l that suits it; the
// least price of l suits all.
func highest(l []api.Quote, suits func(i, price int) bool) []int {
	dearest := slices.SortedFunc(slices.Values(l), func(p, q api.Quote) int { return q.Price - p.Price })
	fit := make([]int, len(l))
quotes:
	for i := range l {
		for _, q := range dearest {
			if suits(i, q.Price) {
				fit[i] = q.Price
				continue quotes
			}
		}
	}
	return fit
}

// risen reports which quotes have at least that price in the lowest fit of
// least loss.
//
// Only this matters at one price: a quote of at least that price that does not
// rise to it, and one of less that does, each costs its weight; and with a
// quote all those rise that its grade is below. So weight is moved from the
// former to the latter, which shows that so much is lost; the fewest quotes
// that can rise at no greater cost are those that are reached in the end. What
// rises at one price rises at every lower one too, so together this is a fit.
func risen(l []api.Quote, price int) []bool {
	give, take := make([]int, len(l)), make([]int, len(l))
	for i, q := range l {
		if q.Price >= price {
			give[i] = q.Weight
		} else {
			take[i] = q.Weight
		}
	}
	t := newTrade(give, take, func(i, j int) bool { return Below(l[i].Grade, l[j].Grade) })
	// A quote is below itself: one that is reached as a giver is as a taker.
	up := make([]bool, len(l))
	for i, from := range t.takers {
		up[i] = from != unreached
	}
	return up
}
