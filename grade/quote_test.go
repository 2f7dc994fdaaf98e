package grade_test

import (
	"slices"
	"testing"

	"kimberlite/api"
	"kimberlite/grade"
)

// quote makes a quote.
func quote(a, b, c, price, weight int) api.Quote {
	return api.Quote{Grade: api.Grade{a, b, c}, Price: price, Weight: weight}
}

// line makes quotes of the weight 1, for ascending grades, each below the next one.
func line(prices ...int) []api.Quote {
	var l []api.Quote
	for i, p := range prices {
		l = append(l, quote(i, i/2, 3, p, 1))
	}
	return l
}

// notQuotes are quotes that are not valid.
func notQuotes() []api.Quote {
	l := []api.Quote{
		{}, quote(0, 0, 0, 1, 0), quote(0, 0, 0, 1, -1), quote(0, 0, 0, 1, api.MaxWeight+1),
		quote(0, 0, 0, 1, minInt), quote(0, 0, 0, 1, maxInt), quote(0, 0, 0, -1, 1),
		quote(0, 0, 0, api.MaxPrice+1, 1), quote(0, 0, 0, minInt, 1), quote(0, 0, 0, maxInt, 1),
		quote(11, 11, 11, maxInt, maxInt), quote(11, 11, 11, minInt, minInt),
	}
	for _, g := range notValid() {
		l = append(l, api.Quote{Grade: g, Price: 5, Weight: 5})
	}
	return l
}

// clashOf is P2.4 in its own words, and by how much the two clash.
func clashOf(l []api.Quote) (int, int, int) {
	first, second, most := -1, -1, 0
	for i := range l {
		for j := range l {
			if i != j && below(l[i].Grade, l[j].Grade) && l[i].Price-l[j].Price > most {
				first, second, most = i, j, l[i].Price-l[j].Price
			}
		}
	}
	return first, second, most
}

// strainOf is how far a number of the fit is from its price at most.
func strainOf(l []api.Quote, fit []int) int {
	most := 0
	for i, q := range l {
		most = max(most, fit[i]-q.Price, q.Price-fit[i])
	}
	return most
}

// lossOf is what a fit loses.
func lossOf(l []api.Quote, fit []int) int {
	sum := 0
	for i, q := range l {
		sum += q.Weight * max(fit[i]-q.Price, q.Price-fit[i])
	}
	return sum
}

// isFit fails unless the numbers are a fit of l.
func isFit(t *testing.T, l []api.Quote, fit []int) {
	t.Helper()
	if len(fit) != len(l) {
		t.Fatalf("%v has not the length of %v", fit, l)
	}
	for i := range l {
		for j := range l {
			if below(l[i].Grade, l[j].Grade) && fit[i] > fit[j] {
				t.Fatalf("%v is no fit of %v: %d and %d", fit, l, i, j)
			}
		}
	}
}

// eachFit calls f with every fit of l whose numbers are from low to high; f
// must not keep it.
func eachFit(l []api.Quote, low, high int, f func([]int)) {
	fit := make([]int, len(l))
	var grow func(n int)
	grow = func(n int) {
		if n == len(l) {
			f(fit)
			return
		}
		from, to := low, high
		for i := range n {
			if below(l[i].Grade, l[n].Grade) {
				from = max(from, fit[i])
			}
			if below(l[n].Grade, l[i].Grade) {
				to = min(to, fit[i])
			}
		}
		for x := from; x <= to; x++ {
			fit[n] = x
			grow(n + 1)
		}
	}
	grow(0)
}

// bestOf is, of the fits of l with numbers from -1 to high, the least cost, and
// of those of that cost that may be taken, the numbers that are nowhere above.
func bestOf(l []api.Quote, high int, cost func([]int) int, may func([]int) bool) ([]int, int) {
	var best []int
	least := maxInt
	eachFit(l, -1, high, func(fit []int) {
		c := cost(fit)
		if c < least {
			least, best = c, nil
		}
		if c > least || !may(fit) {
			return
		}
		if best == nil {
			best = slices.Clone(fit)
		}
		for i, x := range fit {
			best[i] = min(best[i], x)
		}
	})
	return best, least
}

// smallQuotes calls f with every list of at most length quotes of these grades
// and weights, with prices from 0 to high.
func smallQuotes(length, high int, grades []api.Grade, weights []int, f func([]api.Quote)) {
	var grow func(l []api.Quote)
	grow = func(l []api.Quote) {
		f(l)
		if len(l) == length {
			return
		}
		for _, g := range grades {
			for p := range high + 1 {
				for _, w := range weights {
					grow(append(slices.Clone(l), api.Quote{Grade: g, Price: p, Weight: w}))
				}
			}
		}
	}
	grow(nil)
}

// P2.4: plain cases, ties, and pairs that do not clash.
func TestClash(t *testing.T) {
	const most = api.MaxPrice
	for _, c := range []struct {
		l    []api.Quote
		i, j int
	}{
		{nil, -1, -1},
		{[]api.Quote{}, -1, -1},
		{line(7), -1, -1},
		{line(10, 4), 0, 1},
		{line(4, 10), -1, -1},
		{line(4, 4), -1, -1},
		{line(10, 4, 9, 3), 0, 3},
		{line(4, 3, 10, 8), 2, 3},
		{line(5, 4, 5, 4), 0, 1},
		{line(1, 5, 5, 2, 2), 1, 3},
		{line(0, most, 0, most), 1, 2},
		{line(most, 0, most, 0), 0, 1},
		{[]api.Quote{quote(1, 0, 0, 4, 1), quote(0, 0, 0, 10, 9)}, 1, 0},
		{[]api.Quote{quote(1, 0, 0, 9, 1), quote(0, 1, 0, 3, 1), quote(0, 0, 1, 6, 1)}, -1, -1},
		{[]api.Quote{quote(2, 2, 2, 3, 1), quote(2, 2, 2, 4, 1)}, 1, 0},
		{[]api.Quote{quote(2, 2, 2, 4, 1), quote(2, 2, 2, 4, 1)}, -1, -1},
		{[]api.Quote{quote(2, 2, 2, 4, 1), quote(2, 2, 2, 3, 1), quote(2, 2, 2, 4, 1), quote(2, 2, 2, 3, 1)}, 0, 1},
		{[]api.Quote{quote(5, 5, 5, 1, 1), quote(0, 0, 0, 2, 1), quote(4, 4, 4, 1, 1), quote(1, 0, 0, 2, 1)}, 1, 0},
		{[]api.Quote{quote(0, 0, 0, most, 1), quote(11, 11, 11, 0, api.MaxWeight)}, 0, 1},
		{[]api.Quote{quote(0, 0, 0, 6, 1), quote(0, 11, 11, 3, 1), quote(11, 0, 0, 2, 1), quote(11, 11, 10, 1, 1)}, 0, 3},
	} {
		wantClash(t, c.i, c.j, api.OK)(grade.Clash(c.l))
	}
}

// P2.5: plain cases.
func TestLevel(t *testing.T) {
	const most = api.MaxPrice
	for _, c := range []struct {
		l      []api.Quote
		strain int
		fit    []int
	}{
		{nil, 0, nil},
		{[]api.Quote{}, 0, nil},
		{line(7), 0, []int{7}},
		{line(0), 0, []int{0}},
		{line(10, 4), 3, []int{7, 7}},
		{line(10, 5), 3, []int{7, 7}},
		{line(10, 9), 1, []int{9, 9}},
		{line(4, 10), 0, []int{4, 10}},
		{line(4, 4), 0, []int{4, 4}},
		{line(1, 10, 4, 20), 3, []int{0, 7, 7, 17}},
		{line(3, 10, 4, 20), 3, []int{0, 7, 7, 17}},
		{line(5, 10, 4, 7), 3, []int{2, 7, 7, 7}},
		{line(2, 1, 9, 0), 5, []int{0, 0, 4, 4}},
		{line(most, 0), most / 2, []int{most / 2, most / 2}},
		{line(most-1, 0), most / 2, []int{most/2 - 1, most/2 - 1}},
		{line(0, most), 0, []int{0, most}},
		{[]api.Quote{quote(1, 0, 0, 4, api.MaxWeight), quote(0, 0, 0, 10, 1)}, 3, []int{7, 7}},
		{[]api.Quote{quote(3, 3, 3, 8, 5), quote(3, 3, 3, 3, 1), quote(3, 3, 3, 4, 9)}, 3, []int{5, 5, 5}},
		{[]api.Quote{quote(1, 0, 0, 9, 1), quote(0, 1, 0, 3, 1), quote(0, 0, 1, 6, 1)}, 0, []int{9, 3, 6}},
		{[]api.Quote{quote(0, 1, 0, 9, 1), quote(1, 1, 0, 3, 1), quote(1, 0, 0, 6, 1), quote(0, 0, 1, 2, 1)}, 3, []int{6, 6, 3, 0}},
	} {
		wantFit(t, c.strain, c.fit...)(grade.Level(c.l))
	}
}

// P2.6: plain cases.
func TestSettle(t *testing.T) {
	const most, heavy = api.MaxPrice, api.MaxWeight
	for _, c := range []struct {
		l    []api.Quote
		loss int
		fit  []int
	}{
		{nil, 0, nil},
		{[]api.Quote{}, 0, nil},
		{line(7), 0, []int{7}},
		{line(0), 0, []int{0}},
		{line(10, 4), 6, []int{4, 4}},
		{line(4, 10), 0, []int{4, 10}},
		{line(4, 4), 0, []int{4, 4}},
		{line(9, 1, 5), 8, []int{1, 1, 5}},
		{line(9, 8, 1), 8, []int{8, 8, 8}},
		{line(9, 8, 1, 0), 16, []int{1, 1, 1, 1}},
		{line(3, 9, 6, 1, 7, 5), 10, []int{3, 6, 6, 6, 6, 6}},
		{line(most, 0), most, []int{0, 0}},
		{line(0, most), 0, []int{0, most}},
		{[]api.Quote{quote(0, 0, 0, 10, 2), quote(1, 0, 0, 4, 1)}, 6, []int{10, 10}},
		{[]api.Quote{quote(0, 0, 0, 10, 1), quote(1, 0, 0, 4, 2)}, 6, []int{4, 4}},
		{[]api.Quote{quote(0, 0, 0, most, heavy), quote(11, 11, 11, 0, heavy)}, most * heavy, []int{0, 0}},
		{[]api.Quote{quote(0, 0, 0, most, heavy), quote(11, 11, 11, 0, heavy-1)}, most * (heavy - 1), []int{most, most}},
		{[]api.Quote{quote(3, 3, 3, 8, 6), quote(3, 3, 3, 3, 1), quote(3, 3, 3, 4, 4)}, 5 + 16, []int{8, 8, 8}},
		{[]api.Quote{quote(3, 3, 3, 8, 5), quote(3, 3, 3, 3, 1), quote(3, 3, 3, 4, 4)}, 20 + 1, []int{4, 4, 4}},
		{[]api.Quote{quote(3, 3, 3, 8, 5), quote(3, 3, 3, 3, 1), quote(3, 3, 3, 4, 5)}, 20 + 1, []int{4, 4, 4}},
		{[]api.Quote{quote(1, 0, 0, 9, 1), quote(0, 1, 0, 3, 1), quote(0, 0, 1, 6, 1)}, 0, []int{9, 3, 6}},
		// Two below one: together they outweigh it; and one below two.
		{[]api.Quote{quote(1, 0, 0, 9, 2), quote(0, 1, 0, 9, 2), quote(1, 1, 0, 3, 3)}, 18, []int{9, 9, 9}},
		{[]api.Quote{quote(0, 0, 0, 9, 3), quote(1, 0, 0, 3, 2), quote(0, 1, 0, 3, 2)}, 18, []int{3, 3, 3}},
		{[]api.Quote{quote(1, 0, 0, 9, 2), quote(0, 1, 0, 8, 2), quote(1, 1, 0, 3, 3)}, 17, []int{8, 8, 8}},
	} {
		wantFit(t, c.loss, c.fit...)(grade.Settle(c.l))
	}
}

// matches fails unless Clash, Level and Settle do what the chapter's words, tried
// on all fits, say of l, whose prices are at most high.
func matches(t *testing.T, l []api.Quote, high int) {
	t.Helper()
	i, j, _ := clashOf(l)
	wantClash(t, i, j, api.OK)(grade.Clash(l))
	fit, strain := bestOf(l, high+1, func(fit []int) int { return strainOf(l, fit) },
		func(fit []int) bool { return !slices.ContainsFunc(fit, func(x int) bool { return x < 0 }) })
	wantFit(t, strain, fit...)(grade.Level(l))
	fit, loss := bestOf(l, high+1, func(fit []int) int { return lossOf(l, fit) },
		func([]int) bool { return true })
	wantFit(t, loss, fit...)(grade.Settle(l))
}

// P2.4 to P2.6, P2.9, P2.10: no fit does better, tried on all short lists.
func TestSmallQuotes(t *testing.T) {
	corner := gr(0, 0, 0, 1, 0, 0, 0, 1, 0, 1, 1, 0)
	smallQuotes(2, 5, corner, []int{1, 2, 3}, func(l []api.Quote) { matches(t, l, 5) })
	smallQuotes(3, 2, corner[:3], []int{1, 2}, func(l []api.Quote) { matches(t, l, 2) })
	smallQuotes(3, 3, corner[1:], []int{1}, func(l []api.Quote) { matches(t, l, 3) })
	smallQuotes(4, 3, gr(4, 4, 4, 4, 5, 4), []int{1}, func(l []api.Quote) { matches(t, l, 3) })
}

// P2.4 to P2.6, P2.9, P2.10: the same on some lists of up to 7 quotes.
func TestSomeQuotes(t *testing.T) {
	d := dice(4)
	for range 1200 {
		l := make([]api.Quote, d.next(8))
		side, high, heavy := 1+d.next(3), 1+d.next(4), 1+d.next(4)
		for i := range l {
			l[i] = api.Quote{Grade: d.grade(side, 5), Price: d.next(high + 1), Weight: 1 + d.next(heavy)}
		}
		matches(t, l, high)
	}
}

// longQuotes calls f with some lists of up to 24 quotes, with small and with
// great prices and weights, always the same ones.
func longQuotes(f func([]api.Quote)) {
	d := dice(5)
	prices, weights := []int{2, 5, 40, 1 << 20, api.MaxPrice + 1}, []int{1, 2, 9, api.MaxWeight}
	for i := range 400 {
		l := make([]api.Quote, 8+d.next(api.MaxQuotes-7))
		sides := [3]int{1 + d.next(4), 1 + d.next(4), 1 + d.next(2)}
		price, weight := prices[i%len(prices)], weights[i/len(prices)%len(weights)]
		for i := range l {
			g := api.Grade{d.next(sides[0]), d.next(sides[1]) * 3, d.next(sides[2]) * 11}
			p, w := d.next(price), 1+d.next(weight)
			// Dear stones of low grades, mostly, so that there is much to be put right.
			if d.next(3) > 0 {
				p = max(0, p-(g[0]*4+g[1])*price/32)
			}
			l[i] = api.Quote{Grade: g, Price: p, Weight: w}
		}
		f(l)
	}
}

// P2.5, P2.9: Level of long lists: it is a fit, its strain is half of the clash,
// and each of its numbers is pushed up by a quote below, or 0.
func TestLevelOfLongLists(t *testing.T) {
	longQuotes(func(l []api.Quote) {
		i, j, most := clashOf(l)
		wantClash(t, i, j, api.OK)(grade.Clash(l))
		fit, strain, e := grade.Level(l)
		isFit(t, l, fit)
		if e != api.OK || strain != strainOf(l, fit) || 2*strain < most {
			t.Fatalf("%v: strain %d, of %v it is %d; clash %d", l, strain, fit, strainOf(l, fit), most)
		}
		if most > 0 && 2*(strain-1) >= most || most == 0 && strain != 0 {
			t.Fatalf("%v: strain %d, clash %d", l, strain, most)
		}
		for k, x := range fit {
			pushed := func(q api.Quote) bool { return below(q.Grade, l[k].Grade) && q.Price-strain == x }
			if x < 0 || x > 0 && !slices.ContainsFunc(l, pushed) {
				t.Fatalf("%v, %d of %v: there is a lower fit", l, k, fit)
			}
		}
	})
}

// upper calls f with every set of quotes (bits) that has, with each quote, all
// that its grade is below.
func upper(l []api.Quote, f func(set int)) {
	order := make([]int, len(l))
	for i := range order {
		order[i] = i
	}
	// What a grade is below comes before it here.
	slices.SortFunc(order, func(i, j int) int {
		return slices.Compare(l[j].Grade[:], l[i].Grade[:])
	})
	var grow func(n, set int)
	grow = func(n, set int) {
		if n == len(order) {
			f(set)
			return
		}
		in, out := true, true
		for _, k := range order[:n] {
			has := set>>k&1 == 1
			in = in && (has || !below(l[order[n]].Grade, l[k].Grade))
			out = out && (!has || l[k].Grade != l[order[n]].Grade)
		}
		if in {
			grow(n+1, set|1<<order[n])
		}
		if out {
			grow(n+1, set)
		}
	}
	grow(0, 0)
}

// settled is the lowest fit of least loss: a quote has at least a price if all
// the cheapest sets that could have it have that quote.
func settled(l []api.Quote) []int {
	var sets []int
	upper(l, func(set int) { sets = append(sets, set) })
	fit := make([]int, len(l))
	for _, q := range l {
		least, common := maxInt, 0
		for _, set := range sets {
			cost := 0
			for i, p := range l {
				if set>>i&1 == 1 != (p.Price >= q.Price) {
					cost += p.Weight
				}
			}
			if cost < least {
				least, common = cost, set
			} else if cost == least {
				common &= set
			}
		}
		for i := range fit {
			if common>>i&1 == 1 {
				fit[i] = max(fit[i], q.Price)
			}
		}
	}
	return fit
}

// P2.6, P2.10: Settle of long lists.
func TestSettleOfLongLists(t *testing.T) {
	longQuotes(func(l []api.Quote) {
		want := settled(l)
		isFit(t, l, want)
		wantFit(t, lossOf(l, want), want...)(grade.Settle(l))
	})
}

// P2.10: where no two quotes clash nothing is lost, and nothing is strained.
func TestNoClash(t *testing.T) {
	d := dice(6)
	for range 200 {
		l := make([]api.Quote, d.next(api.MaxQuotes+1))
		factors := []int{d.next(1000), d.next(1000), d.next(1000)}
		var prices []int
		for i := range l {
			g := d.grade(top+1, 1)
			p := g[0]*factors[0] + g[1]*factors[1] + g[2]*factors[2]
			l[i] = api.Quote{Grade: g, Price: p, Weight: 1 + d.next(api.MaxWeight)}
			prices = append(prices, p)
		}
		wantClash(t, -1, -1, api.OK)(grade.Clash(l))
		wantFit(t, 0, prices...)(grade.Level(l))
		wantFit(t, 0, prices...)(grade.Settle(l))
	}
}

// P2.5, P2.6: the greatest strain and the greatest loss there can be.
func TestGreatestQuotes(t *testing.T) {
	var l []api.Quote
	var low, half []int
	for i := range api.MaxQuotes {
		price := api.MaxPrice
		if i >= api.MaxQuotes/2 {
			price = 0
		}
		l = append(l, quote(i/12, i/12, i/12, price, api.MaxWeight))
		low, half = append(low, 0), append(half, api.MaxPrice/2)
	}
	wantClash(t, 0, api.MaxQuotes/2, api.OK)(grade.Clash(l))
	wantFit(t, api.MaxPrice/2, half...)(grade.Level(l))
	wantFit(t, api.MaxQuotes/2*api.MaxPrice*api.MaxWeight, low...)(grade.Settle(l))
}

// P2.5: weights play no part in Level and Clash.
func TestLevelWithoutWeights(t *testing.T) {
	d := dice(7)
	longQuotes(func(l []api.Quote) {
		fit, strain, e := grade.Level(l)
		i, j, _ := grade.Clash(l)
		for k := range l {
			l[k].Weight = 1 + d.next(api.MaxWeight)
		}
		if e != api.OK {
			t.Fatal(e)
		}
		wantFit(t, strain, fit...)(grade.Level(l))
		wantClash(t, i, j, api.OK)(grade.Clash(l))
	})
}

// P2.4 to P2.6: which error comes first, and what is just allowed.
func TestQuoteErrors(t *testing.T) {
	ends := []api.Quote{
		quote(0, 0, 0, 0, 1), quote(11, 11, 11, api.MaxPrice, api.MaxWeight),
		quote(0, 11, 0, api.MaxPrice, 1), quote(11, 0, 11, 0, api.MaxWeight),
	}
	full := slices.Repeat(ends, api.MaxQuotes/len(ends))
	calls := map[string]func([]api.Quote) ([]int, int, api.Errno){
		"Level":  grade.Level,
		"Settle": grade.Settle,
		"Clash": func(l []api.Quote) ([]int, int, api.Errno) {
			i, j, e := grade.Clash(l)
			if i == 0 && j == 0 {
				return nil, 0, e
			}
			return []int{i, j}, 0, e
		},
	}
	for name, call := range calls {
		t.Run(name, func(t *testing.T) {
			if got, _, e := call(full); e != api.OK || len(got) == 0 {
				t.Fatalf("24 quotes: %v, error %d", got, e)
			}
			wantNoFit(t, api.ErrLimit)(call(append(slices.Clone(full), ends[0])))
			wantNoFit(t, api.ErrLimit)(call(make([]api.Quote, api.MaxQuotes+1)))
			wantNoFit(t, api.ErrLimit)(call(make([]api.Quote, 1<<16)))
			for _, bad := range notQuotes() {
				wantNoFit(t, api.ErrArg)(call([]api.Quote{bad}))
				wantNoFit(t, api.ErrArg)(call([]api.Quote{bad, ends[1]}))
				wantNoFit(t, api.ErrArg)(call(append(slices.Clone(full[1:]), bad)))
				wantNoFit(t, api.ErrLimit)(call(append(slices.Clone(full), bad)))
			}
		})
	}
}
