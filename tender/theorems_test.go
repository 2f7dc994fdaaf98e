package tender_test

import (
	"slices"
	"testing"

	"kimberlite/api"
	"kimberlite/tender"
)

// decided is Decide's award, which must not fail.
func decided(t *testing.T, n int, l []api.Offer) api.Award {
	t.Helper()
	a, e := tender.Decide(n, l)
	if e != api.OK || len(a.Pays) != len(a.Taken) {
		t.Fatalf("%d lots, %v: %v, error %d", n, l, a, e)
	}
	return a
}

// worthOfBest is Best's worth, which must not fail.
func worthOfBest(t *testing.T, n int, l []api.Offer) int {
	t.Helper()
	_, worth, e := tender.Best(n, l)
	if e != api.OK {
		t.Fatalf("%d lots, %v: error %d", n, l, e)
	}
	return worth
}

// P5.6: what is taken is a choice, its worth is the sum of the Prices, and no
// choice has more.
func TestWorthTheMost(t *testing.T) {
	d := dice(6)
	d.tenders(1500, func(n int, l []api.Offer) {
		took, worth, e := tender.Best(n, l)
		for k, i := range took {
			for _, j := range took[:k] {
				if j >= i || clash(l[i], l[j]) {
					t.Fatalf("%v: %v is no choice", l, took)
				}
			}
		}
		if e != api.OK || sumOf(l, took) != worth {
			t.Fatalf("%v: %v, worth %d, error %d", l, took, worth, e)
		}
		for _, c := range choices(l) {
			if sumOf(l, taken(c)) > worth {
				t.Fatalf("%v: %v is worth %d, but %v more", l, took, worth, taken(c))
			}
		}
	})
}

// P5.7: what is paid is from 0 to the Price, and without a buyer's offers the
// worth of Best is just as much less as they pay less than their Price; without
// the offers of a buyer of whom none is taken it is the same.
func TestNobodyIsHarmed(t *testing.T) {
	d := dice(7)
	free, part, all := 0, 0, 0
	d.tenders(3000, func(n int, l []api.Offer) {
		a := decided(t, n, l)
		less := [maxBuyer + 1]int{}
		for k, i := range a.Taken {
			switch pays := a.Pays[k]; {
			case pays < 0 || pays > l[i].Price:
				t.Fatalf("%v: %d is paid for %v", l, pays, l[i])
			case pays == 0:
				free++
			case pays < l[i].Price:
				part++
			default:
				all++
			}
			less[l[i].Buyer] = l[i].Price - a.Pays[k]
		}
		for b := range less {
			if without := worthOfBest(t, n, others(l, b)); a.Worth-without != less[b] {
				t.Fatalf("%v: %v; without buyer %d the worth is %d", l, a, b, without)
			}
		}
	})
	if free < 500 || part < 500 || all < 500 {
		t.Errorf("only %d paid nothing, %d a part, %d their price", free, part, all)
	}
}

// wantTruthPays fails unless the truth gains a buyer as much as a lie in its place.
func wantTruthPays(t *testing.T, n, buyer int, rest, truth, lie []api.Offer, at int) {
	t.Helper()
	worth := worthOf(n, truth)
	best, e := tender.Gain(n, slices.Insert(slices.Clone(rest), at, truth...), buyer, worth)
	other, e2 := tender.Gain(n, slices.Insert(slices.Clone(rest), at, lie...), buyer, worth)
	if e != api.OK || e2 != api.OK || best < 0 || other > best {
		t.Fatalf("%d lots, others offer %v: %v gains %d, error %d, but %v gains %d, error %d", n, rest, truth, best, e, lie, other, e2)
	}
}

// P5.8: two lots, a few offers of others, and all lies of up to two offers.
func TestTruthPaysOnTwoLots(t *testing.T) {
	var lies []api.Offer
	for set := 1; set <= 3; set++ {
		for price := 1; price <= 4; price++ {
			lies = append(lies, of(3, set, price)...)
		}
	}
	d := dice(8)
	for range 60 {
		rest := d.offers(d.next(5), 3, 2, 4)
		truth := d.truth(3, 1+d.next(3), 2, 4)
		at := d.next(len(rest) + 1)
		shortLists(2, lies, func(lie []api.Offer) { wantTruthPays(t, 2, 3, rest, truth, lie, at) })
	}
}

// truth is offers for so many sets of n lots, just what these are worth to a buyer
// to whom more lots are worth no less.
func (d *dice) truth(buyer, count, n, most int) []api.Offer {
	l := d.offers(count, 1, n, most)
	for i := range l {
		l[i].Buyer = buyer
	}
	worth := worthOf(n, l)
	for i, o := range l {
		l[i].Price = worth[o.Lots]
	}
	return l
}

// P5.8: up to 12 lots, and lies of all kinds: other prices, other lots, fewer
// offers, more, none.
func TestTruthPays(t *testing.T) {
	d := dice(9)
	for range 4000 {
		n, most := 1+d.next(maxLots), []int{0, 3, 20, maxPrice}[d.next(4)]
		buyer := d.next(maxBuyer + 1)
		rest := others(d.offers(d.next(12), 8, n, most), buyer)
		truth := d.truth(buyer, 1+d.next(4), n, most)
		at := d.next(len(rest) + 1)
		for range 5 {
			lie := slices.Clone(truth)
			for i := range lie {
				switch d.next(4) {
				case 0:
					lie[i].Price = d.price(most)
				case 1:
					lie[i].Lots = d.lots(n)
				case 2:
					lie[i].Price = min(maxPrice, lie[i].Price+1+d.next(3))
				}
			}
			wantTruthPays(t, n, buyer, rest, truth, lie, at)
			wantTruthPays(t, n, buyer, rest, truth, lie[:d.next(len(lie)+1)], at)
			wantTruthPays(t, n, buyer, rest, truth, append(lie, d.truth(buyer, 1, n, most)...), at)
		}
	}
}

// P5.9: what is decided does not depend on who submits or shows first, on salts,
// on seals that were not shown, or on those that were handed in before.
func TestOnlyShownCounts(t *testing.T) {
	d := dice(10)
	for range 300 {
		n := 1 + d.next(5)
		own := make([][]api.Offer, maxBuyer+1)
		for b := range own {
			own[b] = d.truth(b, d.next(3), n, 5)
		}
		x := begun(t, n)
		salts := make([]uint64, len(own))
		for range 20 {
			b := d.next(len(own))
			salts[b] = uint64(d.next(5))
			wantErrno(t, api.OK, x.Submit(b, uint64(d.next(9))))
			wantErrno(t, api.OK, x.Submit(b, tender.Seal(own[b], salts[b])))
		}
		wantErrno(t, api.OK, x.Shut())
		shown := make([][]api.Offer, len(own))
		for range 10 {
			if b := d.next(len(own)); x.Show(b, own[b], salts[b]) == api.OK {
				shown[b] = own[b]
			}
		}
		wantClosed(t, x, n, slices.Concat(shown...))
	}
}

// P5.9: offers of one number changed are not those that were sealed; but other
// ones with the same seal are as good.
func TestSealsBind(t *testing.T) {
	l := of(2, 1, 5, 2, 2, 7)
	x := shut(t, 2, map[int]uint64{2: tender.Seal(l, 99)})
	for i := range l {
		for bit := range 63 {
			lie := slices.Clone(l)
			lie[i].Price ^= 1 << bit
			wantErrno(t, api.ErrProof, x.Show(2, lie, 99))
			lie[i] = l[i]
			lie[i].Lots ^= 1 << bit
			wantErrno(t, api.ErrProof, x.Show(2, lie, 99))
			wantErrno(t, api.ErrProof, x.Show(2, l, 99^1<<bit))
		}
	}
	wantErrno(t, api.ErrProof, x.Show(2, of(2, 2, 7, 2, 1, 5), 99))
	wantLooks(t, x, api.TenderShut, 2)
	wantClosed(t, x, 2, nil)

	// Two offers, each with its salt, that have one seal.
	const oneSalt, otherSalt = 4830608713838456884, 6156784848272772664
	one, other := of(0, 1, 8323421), of(0, 1, 808911426)
	seals := map[int]uint64{0: tender.Seal(one, oneSalt)}
	wantErrno(t, api.ErrProof, shut(t, 1, seals).Show(0, other, oneSalt))
	for salt, l := range map[uint64][]api.Offer{oneSalt: one, otherSalt: other} {
		x := shut(t, 1, seals)
		wantErrno(t, api.OK, x.Show(0, l, salt))
		wantClosed(t, x, 1, l)
	}
}
