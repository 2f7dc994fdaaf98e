package tender_test

import (
	"slices"
	"testing"

	"kimberlite/api"
	"kimberlite/tender"
)

// Rules 2, 4 and 5 of DOC.md, P1 and P2: what holds for all functions of the package.

// roomy is a copy of l with room behind its end, and all of it.
func roomy[T any](l []T, more T) (part, all []T) {
	all = append(slices.Clone(l), slices.Repeat([]T{more}, 20)...)
	return all[:len(l)], all
}

// wipe overwrites a list, and what is behind its end.
func wipe[T any](l []T, with T) {
	l = l[:cap(l)]
	for i := range l {
		l[i] = with
	}
}

// answers is all that the functions of the rule return, in numbers, and the lists
// of it.
func answers(n int, l []api.Offer, buyer int, worth []int) (numbers []int, lists [][]int) {
	took, most, e := tender.Best(n, l)
	a, e2 := tender.Decide(n, l)
	gain, e3 := tender.Gain(n, l, buyer, worth)
	numbers = slices.Concat(took, []int{most, int(e)}, a.Taken, a.Pays, []int{a.Worth, int(e2), gain, int(e3)})
	return append(numbers, int(tender.Seal(l, 3))), [][]int{took, a.Taken, a.Pays}
}

// Rule 4, P2: arguments stay as they are, up to their capacity; results share no
// memory; and the same call has the same result.
func TestMemory(t *testing.T) {
	d := dice(11)
	try := func(n int, l []api.Offer) {
		t.Helper()
		l, all := roomy(l, api.Offer{Buyer: 1, Lots: 1, Price: 1})
		worth, allWorth := roomy(make([]int, 1<<n), 1)
		was, wasWorth := slices.Clone(all), slices.Clone(allWorth)
		first, lists := answers(n, l, 1, worth)
		for i := range lists {
			kept := slices.Concat(lists[i+1:]...)
			wipe(lists[i], -77)
			if !slices.Equal(slices.Concat(lists[i+1:]...), kept) {
				t.Fatalf("%d lots, %v: two results share memory", n, l)
			}
		}
		second, lists := answers(n, l, 1, worth)
		if !slices.Equal(first, second) {
			t.Fatalf("%d lots, %v: first %v, then %v", n, l, first, second)
		}
		if !slices.Equal(all, was) || !slices.Equal(allWorth, wasWorth) {
			t.Fatalf("%d lots, %v: an argument is changed, or shares memory with a result", n, l)
		}
		kept := slices.Concat(lists...)
		wipe(all, api.Offer{Buyer: -77, Lots: -77, Price: -77})
		wipe(allWorth, -77)
		if !slices.Equal(slices.Concat(lists...), kept) {
			t.Fatalf("%d lots: a result shares memory with an argument", n)
		}
	}
	d.tenders(500, try)
	try(2, of(0, 0, 0))
	try(2, of(0, 1, 10, 1, 1, 7, 2, 3, 8, 1, 2, 5))
	try(maxLots, d.offers(maxOffers+1, 8, maxLots, 5))
}

// Rule 4: a tender keeps no memory of what was shown to it, and gives none away.
func TestTenderMemory(t *testing.T) {
	own := [][]api.Offer{of(0, 1, 4), of(1, 1, 3, 1, 2, 2), of(2, 3, 5)}
	x := shut(t, 2, sealed(own))
	var first *tender.Tender
	for b := range own {
		l, all := roomy(own[b], api.Offer{})
		was := slices.Clone(all)
		wantErrno(t, api.OK, x.Show(b, l, 1))
		wantErrno(t, api.ErrExists, x.Show(b, l, 1))
		if !slices.Equal(all, was) {
			t.Fatalf("Show changes what it is shown")
		}
		wipe(all, api.Offer{Buyer: 7, Lots: 1, Price: 99})
		missing := x.Missing()
		wipe(missing, -77)
		if first == nil {
			first = x.Copy()
		}
	}
	wantLooks(t, first, api.TenderShut, 1, 2)
	second := x.Copy()
	a, l, _ := x.Close()
	want := api.Award{Taken: []int{0, 2}, Pays: []int{3, 1}, Worth: 6}
	if !same(a, want) {
		t.Fatalf("closed with %v; want %v", a, want)
	}
	wipe(a.Taken, -77)
	if !slices.Equal(a.Pays, want.Pays) {
		t.Fatalf("two lists of an award share memory")
	}
	wipe(a.Pays, -77)
	wipe(l, api.Offer{})
	wantClosed(t, second, 2, slices.Concat(own...))
	wantClosed(t, first, 2, own[0])
	wantLooks(t, x, api.TenderDone)
}

// Rule 2: a call that fails changes nothing: the tender goes on as its copy does.
func TestErrorsChangeNothing(t *testing.T) {
	l := of(1, 1, 5, 1, 2, 6)
	x := begun(t, 2)
	wantErrno(t, api.OK, x.Submit(1, tender.Seal(l, 1)))
	wantErrno(t, api.ErrArg, x.Submit(-1, 2))
	wantErrno(t, api.ErrArg, x.Submit(maxInt, 2))
	wantErrno(t, api.ErrState, x.Show(1, l, 1))
	wantNotClosed(t, x, api.ErrState)
	wantLooks(t, x, api.TenderOpen, 1)
	wantErrno(t, api.OK, x.Shut())
	wantErrno(t, api.ErrState, x.Shut())
	wantErrno(t, api.ErrState, x.Submit(1, 2))
	wantErrno(t, api.ErrState, x.Submit(2, 2))
	wantErrno(t, api.ErrProof, x.Show(1, l, 2))
	wantErrno(t, api.ErrNone, x.Show(2, nil, 2))
	wantLooks(t, x, api.TenderShut, 1)
	wantErrno(t, api.OK, x.Show(1, l, 1))
	wantErrno(t, api.ErrExists, x.Show(1, nil, 1))
	wantClosed(t, x, 2, l)
	for range 2 {
		wantErrno(t, api.ErrState, x.Submit(2, 2))
		wantErrno(t, api.ErrState, x.Shut())
		wantErrno(t, api.ErrState, x.Show(1, l, 1))
		wantNotClosed(t, x, api.ErrState)
		wantLooks(t, x, api.TenderDone)
	}
}

// P1: lists that are far too long.
func TestHugeLists(t *testing.T) {
	for _, a := range []int{0, 1, minInt, maxInt} {
		l := slices.Repeat(of(a, a, a), 1<<18)
		wantRefused(t, api.ErrLimit, maxLots, l[:1<<10])
		if _, _, e := tender.Best(3, l); e != api.ErrLimit {
			t.Errorf("Best: error %d", e)
		}
		wantGain(t, 0, api.ErrArg)(tender.Gain(3, nil, 0, slices.Repeat([]int{a}, 1<<20)))
		x := shut(t, 3, map[int]uint64{0: tender.Seal(l, 1)})
		wantErrno(t, api.ErrProof, x.Show(0, l[1:], 1))
		wantErrno(t, api.ErrLimit, x.Show(0, l, 1))
		wantLooks(t, x, api.TenderShut, 0)
	}
}
