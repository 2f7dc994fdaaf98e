package tender_test

import (
	"slices"
	"testing"

	"kimberlite/api"
	"kimberlite/tender"
)

// The chapter's example, which is also the one of DOC.md.
func TestExample(t *testing.T) {
	l := of(0, 1, 10, 1, 1, 7, 2, 3, 8, 1, 2, 5)
	wantBest(t, 15, 0, 3)(tender.Best(2, l))
	wantAward(t, api.Award{Taken: []int{0, 3}, Pays: []int{3, 0}, Worth: 15})(tender.Decide(2, l))
	wantGain(t, 7, api.OK)(tender.Gain(2, l, 0, []int{0, 10, 0, 10}))
	wantGain(t, 5, api.OK)(tender.Gain(2, l, 1, []int{0, 7, 5, 7}))
	wantGain(t, 0, api.OK)(tender.Gain(2, l, 2, []int{0, 0, 0, 8}))
}

// P5.1: without offers, and with a single one.
func TestBestOfFew(t *testing.T) {
	for n := 1; n <= maxLots; n++ {
		wantBest(t, 0)(tender.Best(n, nil))
		wantBest(t, 0)(tender.Best(n, []api.Offer{}))
		wantAward(t, api.Award{})(tender.Decide(n, nil))
		wantBest(t, 5, 0)(tender.Best(n, of(3, 1<<n-1, 5)))
		wantAward(t, api.Award{Taken: []int{0}, Pays: []int{0}, Worth: 5})(tender.Decide(n, of(3, 1, 5)))
	}
}

// P5.1: offers of one buyer are alternatives, whatever they are for.
func TestBestOfOneBuyer(t *testing.T) {
	wantBest(t, 9, 2)(tender.Best(3, of(4, 1, 5, 4, 2, 6, 4, 4, 9, 4, 3, 8)))
	wantBest(t, 6, 1)(tender.Best(2, of(4, 1, 5, 4, 2, 6)))
	wantBest(t, 5, 0)(tender.Best(1, of(0, 1, 5, 0, 1, 5)))
	wantBest(t, 7, 15)(tender.Best(maxLots, append(slices.Repeat(of(7, 1, 6), 15), of(7, 4095, 7)...)))
	wantAward(t, api.Award{Taken: []int{1}, Pays: []int{0}, Worth: 6})(tender.Decide(2, of(4, 1, 5, 4, 2, 6)))
}

// P5.1: of several choices of the greatest worth, the one with the lower indexes.
func TestBestPrefersFirst(t *testing.T) {
	wantBest(t, 5, 0)(tender.Best(1, of(0, 1, 5, 1, 1, 5)))
	wantBest(t, 5, 0)(tender.Best(1, of(1, 1, 5, 0, 1, 5)))
	wantBest(t, 5, 0)(tender.Best(1, slices.Repeat(of(1, 1, 5), maxOffers)))
	wantBest(t, 10, 0)(tender.Best(2, of(0, 3, 10, 1, 1, 5, 2, 2, 5)))
	wantBest(t, 10, 0, 1)(tender.Best(2, of(1, 1, 5, 2, 2, 5, 0, 3, 10)))
	wantBest(t, 10, 0, 2)(tender.Best(2, of(1, 1, 5, 0, 3, 10, 2, 2, 5)))
	wantBest(t, 10, 0, 3)(tender.Best(2, of(1, 1, 1, 0, 3, 10, 2, 2, 5, 3, 2, 9)))
	// More offers, or fewer, do not count: only which comes first.
	wantBest(t, 3, 0)(tender.Best(3, of(0, 7, 3, 1, 1, 1, 2, 2, 1, 3, 4, 1)))
	wantBest(t, 3, 0, 1, 2)(tender.Best(3, of(1, 1, 1, 2, 2, 1, 3, 4, 1, 0, 7, 3)))
	// A greater worth counts first.
	wantBest(t, 11, 1, 2)(tender.Best(2, of(0, 3, 10, 1, 1, 5, 2, 2, 6)))
	wantBest(t, 11, 2)(tender.Best(2, of(1, 1, 5, 2, 2, 5, 0, 3, 11)))
}

// P5.1: as many offers as there may be, at the greatest price: one for each buyer
// is taken; and 12 lots, of which all are sold.
func TestBestOfMany(t *testing.T) {
	var l, pieces []api.Offer
	for b := range maxBuyer + 1 {
		l = append(l, of(b, 1<<b, maxPrice, b, 1<<b|1<<11, maxPrice)...)
		pieces = append(pieces, of(b, 2<<b|1<<11>>b, maxPrice)...)
	}
	wantBest(t, 8*maxPrice, 0, 2, 4, 6, 8, 10, 12, 14)(tender.Best(maxLots, l))
	wantDecided(t, maxLots, l)
	slices.Reverse(l)
	wantBest(t, 8*maxPrice, 0, 3, 5, 7, 9, 11, 13, 15)(tender.Best(maxLots, l))
	wantDecided(t, maxLots, l)
	wantDecided(t, maxLots, append(pieces, pieces...))
}

// shortLists calls f with all lists of up to length of these offers.
func shortLists(length int, offers []api.Offer, f func([]api.Offer)) {
	var grow func(l []api.Offer)
	grow = func(l []api.Offer) {
		f(l)
		if len(l) < length {
			for _, o := range offers {
				grow(append(l[:len(l):len(l)], o))
			}
		}
	}
	grow(nil)
}

// P5.1, P5.2: all short lists for one lot and for two, of two and of three buyers.
func TestShortLists(t *testing.T) {
	var one, two, three []api.Offer
	for b := range 3 {
		for price := 1; price <= 3; price++ {
			one = append(one, of(b, 1, price)...)
		}
		for set := 1; set <= 3; set++ {
			three = append(three, of(b, set, 1, b, set, 2)...)
			if b < 2 {
				two = append(two, of(b, set, 1)...)
			}
		}
	}
	shortLists(4, one, func(l []api.Offer) { wantDecided(t, 1, l) })
	shortLists(4, two, func(l []api.Offer) { wantDecided(t, 2, l) })
	shortLists(3, three, func(l []api.Offer) { wantDecided(t, 2, l) })
}

// P5.1, P5.2: lists of any length.
func TestLongLists(t *testing.T) {
	d := dice(1)
	d.tenders(2500, func(n int, l []api.Offer) { wantDecided(t, n, l) })
	// Lots of their own for each of 8 buyers, so that there are many choices.
	for range 20 {
		var l []api.Offer
		for i := range maxOffers {
			l = append(l, api.Offer{Buyer: i % 8, Lots: 1 << (i % 12), Price: d.price(4)})
		}
		wantDecided(t, maxLots, l)
	}
}

// P5.2: what is paid for one lot is the next offer of another buyer; for several
// ones, what the others could do with them.
func TestPays(t *testing.T) {
	for _, c := range []struct {
		n    int
		l    []api.Offer
		want api.Award
	}{
		{1, of(0, 1, 10, 1, 1, 7), api.Award{Taken: []int{0}, Pays: []int{7}, Worth: 10}},
		{1, of(1, 1, 7, 0, 1, 10), api.Award{Taken: []int{1}, Pays: []int{7}, Worth: 10}},
		{1, of(0, 1, 10, 0, 1, 9, 1, 1, 7), api.Award{Taken: []int{0}, Pays: []int{7}, Worth: 10}},
		{1, of(0, 1, 10, 1, 1, 10), api.Award{Taken: []int{0}, Pays: []int{10}, Worth: 10}},
		{2, of(0, 1, 6, 1, 2, 7, 2, 3, 10), api.Award{Taken: []int{0, 1}, Pays: []int{3, 4}, Worth: 13}},
		{2, of(2, 3, 14, 1, 2, 7, 0, 1, 6), api.Award{Taken: []int{0}, Pays: []int{13}, Worth: 14}},
		{3, of(0, 1, 2, 1, 2, 2, 2, 4, 2, 3, 7, 5), api.Award{Taken: []int{0, 1, 2}, Pays: []int{1, 1, 1}, Worth: 6}},
		// Without buyer 0, buyer 1 would have their other offer.
		{2, of(0, 1, 10, 1, 1, 9, 1, 2, 5), api.Award{Taken: []int{0, 2}, Pays: []int{4, 0}, Worth: 15}},
	} {
		wantAward(t, c.want)(tender.Decide(c.n, c.l))
		if !same(awardOf(c.l), c.want) {
			t.Errorf("%v: the model has %v; want %v", c.l, awardOf(c.l), c.want)
		}
	}
}

// The rule: how many lots there may be.
func TestLots(t *testing.T) {
	for _, n := range anyInts() {
		if n >= 1 && n <= 12 {
			wantBest(t, 4, 0)(tender.Best(n, of(0, 1, 4)))
			continue
		}
		wantRefused(t, api.ErrArg, n, nil)
		wantRefused(t, api.ErrArg, n, of(0, 1, 4))
		wantRefused(t, api.ErrArg, n, of(-1, 0, 0))
	}
}

// The rule: what is valid, and what is not.
func TestValidOffers(t *testing.T) {
	try := func(n int, o api.Offer) {
		t.Helper()
		if !isValid(n, o) {
			wantRefused(t, api.ErrArg, n, []api.Offer{o})
			return
		}
		wantAward(t, api.Award{Taken: []int{0}, Pays: []int{0}, Worth: o.Price})(tender.Decide(n, []api.Offer{o}))
	}
	for n := 1; n <= maxLots; n++ {
		for _, a := range anyInts() {
			try(n, api.Offer{Buyer: a, Lots: 1, Price: 1})
			try(n, api.Offer{Buyer: 7, Lots: a, Price: 1})
			try(n, api.Offer{Buyer: 0, Lots: 1, Price: a})
			try(n, api.Offer{Buyer: a, Lots: a, Price: a})
		}
		for _, set := range []int{1 << n, 1<<n - 1, 1<<n + 1, 1<<n | 1<<(n-1), -1 << n, minInt | 1} {
			try(n, api.Offer{Buyer: 0, Lots: set, Price: maxPrice})
		}
	}
}

// The rule: one offer that is not valid is enough, wherever it stands.
func TestOneBadOffer(t *testing.T) {
	d := dice(2)
	for i := range maxOffers {
		for _, bad := range of(8, 1, 1, -1, 1, 1, 0, 0, 1, 0, 8, 1, 0, 1, 0, 0, 1, maxPrice+1, minInt, maxInt, minInt) {
			l := d.offers(maxOffers, 8, 3, 9)
			l[i] = bad
			wantRefused(t, api.ErrArg, 3, l)
			wantRefused(t, api.ErrArg, 3, l[:i+1])
			wantRefused(t, api.ErrLimit, 3, append(l, l[0]))
			wantRefused(t, api.ErrLimit, 3, append(l, l...))
			wantRefused(t, api.ErrArg, 0, append(l, l...))
		}
	}
}

// The rule: how many offers there may be.
func TestTooManyOffers(t *testing.T) {
	d := dice(3)
	for n := 1; n <= maxLots; n++ {
		l := d.offers(maxOffers, 8, n, 9)
		wantDecided(t, n, l)
		wantRefused(t, api.ErrLimit, n, append(l, l[3]))
		wantRefused(t, api.ErrLimit, n, slices.Repeat(l, 3))
	}
	for _, n := range []int{minInt, -1, 0, 13, maxInt} {
		wantRefused(t, api.ErrArg, n, d.offers(maxOffers+1, 8, 1, 9))
		wantRefused(t, api.ErrArg, n, of(0, 0, 0))
	}
}

// P5.3: any worths.
func TestGain(t *testing.T) {
	d := dice(4)
	won, lost, below := 0, 0, 0
	d.tenders(1500, func(n int, l []api.Offer) {
		worth := make([]int, 1<<n)
		for i := range worth {
			worth[i] = d.next(200)
			if d.next(3) == 0 {
				worth[i] = maxPrice - d.next(4)
			}
		}
		a := awardOf(l)
		for b := range maxBuyer + 1 {
			want := gainOf(l, a, b, worth)
			wantGain(t, want, api.OK)(tender.Gain(n, l, b, worth))
			switch {
			case want > 0:
				won++
			case want == 0:
				lost++
			default:
				below++
			}
		}
	})
	if won < 100 || lost < 100 || below < 100 {
		t.Errorf("%d won, %d won or lost nothing, %d paid too much", won, lost, below)
	}
}

// P5.3: what is nothing is 0, and what was paid can be more than it is worth.
func TestGainOfFew(t *testing.T) {
	wantGain(t, 0, api.OK)(tender.Gain(1, nil, 0, []int{9, 9}))
	wantGain(t, 0, api.OK)(tender.Gain(1, of(0, 1, 5), 1, []int{9, 9}))
	wantGain(t, 0, api.OK)(tender.Gain(1, of(0, 1, 5, 1, 1, 4), 1, []int{9, 9}))
	wantGain(t, 5, api.OK)(tender.Gain(1, of(0, 1, 5, 1, 1, 4), 0, []int{7, 9}))
	wantGain(t, -4, api.OK)(tender.Gain(1, of(0, 1, 5, 1, 1, 4), 0, []int{7, 0}))
	wantGain(t, -maxPrice, api.OK)(tender.Gain(1, of(7, 1, maxPrice, 6, 1, maxPrice), 7, []int{0, 0}))
	wantGain(t, maxPrice, api.OK)(tender.Gain(1, of(7, 1, 1), 7, []int{0, maxPrice}))
	// It is the lots of the offer that is taken, not of another one of theirs.
	wantGain(t, 30, api.OK)(tender.Gain(2, of(3, 1, 5, 3, 2, 6, 3, 3, 4), 3, []int{10, 20, 30, 40}))
}

// P5.3: errors, all after those of the rule.
func TestGainErrors(t *testing.T) {
	for n := 1; n <= maxLots; n++ {
		l := of(0, 1, 5, 1, 1<<n-1, 3)
		worth := make([]int, 1<<n)
		for _, b := range anyInts() {
			if !isBuyer(b) {
				wantGain(t, 0, api.ErrArg)(tender.Gain(n, l, b, worth))
				wantGain(t, 0, api.ErrArg)(tender.Gain(n, nil, b, worth))
			}
		}
		for _, count := range []int{0, 1, n, 1<<n - 1, 1<<n + 1, 1 << (n + 1), 1 << (n - 1), 1 << 13} {
			if count != 1<<n {
				wantGain(t, 0, api.ErrArg)(tender.Gain(n, l, 0, make([]int, count)))
				wantGain(t, 0, api.ErrArg)(tender.Gain(n, nil, 2, make([]int, count)))
			}
		}
		for _, i := range []int{0, 1, len(worth) / 2, len(worth) - 1} {
			for _, a := range anyInts() {
				bad := slices.Clone(worth)
				bad[i] = a
				want := api.ErrArg
				if a >= 0 && a <= maxPrice {
					want = api.OK
				}
				wantGain(t, 0, want)(tender.Gain(n, l, 7, bad))
			}
		}
	}
}
