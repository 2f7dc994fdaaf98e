package tender_test

import (
	"slices"
	"testing"

	"kimberlite/api"
	"kimberlite/tender"
)

// begun is a new tender for so many lots.
func begun(t *testing.T, lots int) *tender.Tender {
	t.Helper()
	x, e := tender.New(lots)
	if x == nil || e != api.OK {
		t.Fatalf("New(%d): error %d", lots, e)
	}
	return x
}

// shut is a tender that is shut, to which these seals were handed in, by buyer.
func shut(t *testing.T, lots int, seals map[int]uint64) *tender.Tender {
	t.Helper()
	x := begun(t, lots)
	for b, s := range seals {
		wantErrno(t, api.OK, x.Submit(b, s))
	}
	wantErrno(t, api.OK, x.Shut())
	return x
}

// sealed is the seals of offers of each buyer, with the salt 1.
func sealed(l [][]api.Offer) map[int]uint64 {
	seals := map[int]uint64{}
	for b, own := range l {
		seals[b] = tender.Seal(own, 1)
	}
	return seals
}

// wantLooks fails unless this is what State and Missing say.
func wantLooks(t *testing.T, x *tender.Tender, state int, missing ...int) {
	t.Helper()
	if got := x.State(); got != state {
		t.Fatalf("state %d; want %d", got, state)
	}
	if got := x.Missing(); !slices.Equal(got, missing) {
		t.Fatalf("missing %v; want %v", got, missing)
	}
}

// wantClosed fails unless Close gives these offers, and the award of them.
func wantClosed(t *testing.T, x *tender.Tender, lots int, want []api.Offer) {
	t.Helper()
	a, l, e := x.Close()
	if e != api.OK || !slices.Equal(l, want) || !same(a, awardOf(want)) {
		t.Fatalf("%d lots: closed with %v of %v, error %d; want %v of %v", lots, a, l, e, awardOf(want), want)
	}
}

// wantNotClosed fails unless Close gives this error and nothing else.
func wantNotClosed(t *testing.T, x *tender.Tender, want api.Errno) {
	t.Helper()
	if a, l, e := x.Close(); e != want || len(l) != 0 || !same(a, api.Award{}) {
		t.Fatalf("closed with %v of %v, error %d; want error %d", a, l, e, want)
	}
}

// The example of the chapter, sold by seals.
func TestTender(t *testing.T) {
	own := [][]api.Offer{of(0, 1, 10), of(1, 1, 7, 1, 2, 5), of(2, 3, 8)}
	x := begun(t, 2)
	wantLooks(t, x, api.TenderOpen)
	for b, l := range own {
		wantErrno(t, api.OK, x.Submit(b, tender.Seal(l, uint64(b+20))))
	}
	wantLooks(t, x, api.TenderOpen, 0, 1, 2)
	wantErrno(t, api.OK, x.Shut())
	wantLooks(t, x, api.TenderShut, 0, 1, 2)
	wantErrno(t, api.OK, x.Show(2, own[2], 22))
	wantErrno(t, api.OK, x.Show(0, own[0], 20))
	wantLooks(t, x, api.TenderShut, 1)
	wantErrno(t, api.OK, x.Show(1, own[1], 21))
	wantLooks(t, x, api.TenderShut)
	a, l, e := x.Close()
	want := api.Award{Taken: []int{0, 2}, Pays: []int{3, 0}, Worth: 15}
	if e != api.OK || !same(a, want) || !slices.Equal(l, slices.Concat(own...)) {
		t.Errorf("closed with %v of %v, error %d", a, l, e)
	}
	wantLooks(t, x, api.TenderDone)
}

// P5.5: how many lots there may be.
func TestNew(t *testing.T) {
	for _, n := range anyInts() {
		x, e := tender.New(n)
		if n < 1 || n > 12 {
			if x != nil || e != api.ErrArg {
				t.Errorf("New(%d): error %d; want nil and ErrArg", n, e)
			}
			continue
		}
		if e != api.OK {
			t.Fatalf("New(%d): error %d", n, e)
		}
		wantLooks(t, x, api.TenderOpen)
		wantErrno(t, api.OK, x.Shut())
		wantLooks(t, x, api.TenderShut)
		wantClosed(t, x, n, nil)
		wantLooks(t, x, api.TenderDone)
	}
}

// P5.5: each call in each state, with arguments that are right, and with a buyer
// who is none: the state comes first.
func TestStates(t *testing.T) {
	l := of(3, 1, 5)
	open := begun(t, 2)
	wantErrno(t, api.OK, open.Submit(3, tender.Seal(l, 1)))
	closed := open.Copy()
	wantErrno(t, api.OK, closed.Shut())
	wantClosed(t, closed, 2, nil)
	for state, x := range []*tender.Tender{open, shut(t, 2, map[int]uint64{3: tender.Seal(l, 1)}), closed} {
		wantLooks(t, x, state, 3)
		is := func(want int, e api.Errno) api.Errno {
			if state != want {
				return api.ErrState
			}
			return e
		}
		for _, b := range []int{-1, 8, minInt, maxInt} {
			wantErrno(t, is(0, api.ErrArg), x.Copy().Submit(b, 1))
			wantErrno(t, is(1, api.ErrArg), x.Copy().Show(b, l, 1))
		}
		wantErrno(t, is(0, api.OK), x.Copy().Submit(4, 1))
		wantErrno(t, is(0, api.OK), x.Copy().Shut())
		wantErrno(t, is(1, api.OK), x.Copy().Show(3, l, 1))
		wantErrno(t, is(1, api.ErrNone), x.Copy().Show(4, nil, 1))
		wantErrno(t, is(1, api.ErrProof), x.Copy().Show(3, l, 2))
		if state == api.TenderShut {
			wantClosed(t, x.Copy(), 2, nil)
		} else {
			wantNotClosed(t, x.Copy(), api.ErrState)
		}
		wantLooks(t, x, state, 3)
	}
}

// P5.5: who may hand in a seal; a later one takes the place of an earlier one.
func TestSubmit(t *testing.T) {
	first, second := of(6, 1, 5), of(6, 1, 2, 6, 2, 3)
	for _, b := range anyInts() {
		x := begun(t, 2)
		if !isBuyer(b) {
			wantErrno(t, api.ErrArg, x.Submit(b, 1))
			wantLooks(t, x, api.TenderOpen)
			continue
		}
		wantErrno(t, api.OK, x.Submit(b, tender.Seal(nil, 4)))
		wantLooks(t, x, api.TenderOpen, b)
	}
	x := begun(t, 2)
	for _, l := range [][]api.Offer{second, first, second, second} {
		wantErrno(t, api.OK, x.Submit(6, tender.Seal(l, 1)))
		wantErrno(t, api.ErrArg, x.Submit(8, tender.Seal(first, 1)))
		wantLooks(t, x, api.TenderOpen, 6)
	}
	wantErrno(t, api.OK, x.Submit(2, 0))
	wantErrno(t, api.OK, x.Submit(0, 1<<64-1))
	wantLooks(t, x, api.TenderOpen, 0, 2, 6)
	wantErrno(t, api.OK, x.Shut())
	wantErrno(t, api.ErrState, x.Submit(6, tender.Seal(first, 1)))
	wantErrno(t, api.ErrProof, x.Show(6, first, 1))
	wantErrno(t, api.ErrProof, x.Show(2, nil, 0))
	wantErrno(t, api.OK, x.Show(6, second, 1))
	wantClosed(t, x, 2, second)
	wantLooks(t, x, api.TenderDone, 0, 2)
}

// P5.5: each error of Show comes before those that the chapter names after it.
func TestShowErrors(t *testing.T) {
	five, bad, alien, good := of(0, 1, 1, 0, 1, 2, 0, 1, 3, 0, 1, 4, 9, 0, 0), of(0, 4, 1), of(1, 1, 1), of(0, 3, 2, 0, 1, 1)
	for _, c := range []struct {
		sealed []api.Offer
		buyer  int
		shown  []api.Offer
		salt   uint64
		want   api.Errno
	}{
		{good, 0, good, 1, api.OK},
		{nil, 0, nil, 1, api.OK},
		{nil, 0, []api.Offer{}, 1, api.OK},
		{five[:4], 0, five[:4], 1, api.OK},
		{good, -1, good, 1, api.ErrArg},
		{good, 8, five, 2, api.ErrArg},
		{good, minInt, five, 2, api.ErrArg},
		{good, maxInt, good, 1, api.ErrArg},
		{good, 1, good, 1, api.ErrNone},
		{good, 1, five, 2, api.ErrNone},
		{good, 1, nil, 0, api.ErrNone},
		{good, 0, good, 2, api.ErrProof},
		{good, 0, good[:1], 1, api.ErrProof},
		{good, 0, nil, 1, api.ErrProof},
		{good, 0, five, 1, api.ErrProof},
		{good, 0, bad, 1, api.ErrProof},
		{bad, 0, bad, 2, api.ErrProof},
		{nil, 0, nil, 0, api.ErrProof},
		{five, 0, five, 1, api.ErrLimit},
		{alien, 0, alien, 1, api.ErrArg},
		{bad, 0, bad, 1, api.ErrArg},
		{append(good, bad...), 0, append(good, bad...), 1, api.ErrArg},
		{append(good, alien...), 0, append(good, alien...), 1, api.ErrArg},
		{slices.Repeat(bad, 5), 0, slices.Repeat(bad, 5), 1, api.ErrLimit},
	} {
		x := shut(t, 2, map[int]uint64{0: tender.Seal(c.sealed, 1)})
		if e := x.Show(c.buyer, c.shown, c.salt); e != c.want {
			t.Fatalf("%v, shown %v by %d with %d: error %d; want %d", c.sealed, c.shown, c.buyer, c.salt, e, c.want)
		}
		if c.want != api.OK {
			wantLooks(t, x, api.TenderShut, 0)
			wantClosed(t, x, 2, nil)
			continue
		}
		wantLooks(t, x, api.TenderShut)
		for _, l := range [][]api.Offer{c.shown, good, five, bad, nil} {
			wantErrno(t, api.ErrExists, x.Show(0, l, 1))
			wantErrno(t, api.ErrExists, x.Show(0, l, 2))
		}
		wantClosed(t, x, 2, c.shown)
	}
}

// P5.5: every offer that is shown must be valid for the lots of the tender.
func TestShowOffers(t *testing.T) {
	for _, n := range []int{1, 2, 11, 12} {
		for _, a := range append(anyInts(), 1<<n-1, 1<<n) {
			for _, o := range of(a, 1, 1, 5, a, 1, 5, 1, a) {
				for i := range maxOwn {
					l := slices.Repeat(of(5, 1, 1), maxOwn)
					l[i] = o
					x := shut(t, n, map[int]uint64{5: tender.Seal(l, 77)})
					if o.Buyer != 5 || !isValid(n, o) {
						wantErrno(t, api.ErrArg, x.Show(5, l, 77))
						wantLooks(t, x, api.TenderShut, 5)
						continue
					}
					wantErrno(t, api.OK, x.Show(5, l, 77))
					wantClosed(t, x, n, l)
				}
			}
		}
	}
}

// P5.5: 16 offers of all buyers, and not one more; who shows no offers always can.
func TestShowFull(t *testing.T) {
	var own [][]api.Offer
	for b, count := range []int{4, 4, 4, 3, 2, 1, 0, 4} {
		own = append(own, slices.Repeat(of(b, 1, 5+b), count))
	}
	x := shut(t, 1, sealed(own))
	for b := range 4 {
		wantErrno(t, api.OK, x.Show(b, own[b], 1))
	}
	wantErrno(t, api.ErrFull, x.Show(4, own[4], 1))
	wantErrno(t, api.ErrProof, x.Show(4, own[4], 2))
	wantErrno(t, api.ErrFull, x.Show(7, own[7], 1))
	wantLooks(t, x, api.TenderShut, 4, 5, 6, 7)
	wantErrno(t, api.OK, x.Show(5, own[5], 1))
	wantErrno(t, api.ErrFull, x.Show(4, own[4], 1))
	wantErrno(t, api.OK, x.Show(6, own[6], 1))
	wantErrno(t, api.ErrExists, x.Show(6, own[6], 1))
	wantLooks(t, x, api.TenderShut, 4, 7)
	wantClosed(t, x, 1, slices.Concat(own[0], own[1], own[2], own[3], own[5]))

	own = [][]api.Offer{of(0, 1, 9), of(1, 1, 2), own[2], nil, slices.Repeat(of(4, 1, 3), 4), slices.Repeat(of(5, 1, 4), 4)}
	own = append(own, of(6, 1, 1, 6, 1, 1, 6, 1, 1, 6, 2, 1), slices.Repeat(of(7, 1, 1), 5))
	x = shut(t, 1, sealed(own))
	for _, b := range []int{5, 4, 2, 1} {
		wantErrno(t, api.OK, x.Show(b, own[b], 1))
	}
	// 13 are shown: what is wrong with 4 or 5 more comes before that they are too many.
	wantErrno(t, api.ErrArg, x.Show(6, own[6], 1))
	wantErrno(t, api.ErrLimit, x.Show(7, own[7], 1))
	wantErrno(t, api.OK, x.Show(0, own[0], 1))
	wantClosed(t, x, 1, slices.Concat(own[0], own[1], own[2], own[4], own[5]))
}

// P5.5: Close returns the offers by ascending buyer, and each buyer's as they were
// shown, in whatever order the buyers showed them.
func TestCloseOrder(t *testing.T) {
	own := [][]api.Offer{of(0, 4, 3, 0, 1, 9, 0, 1, 9), of(1, 2, 5), nil, of(3, 7, 8, 3, 1, 8), of(4, 6, 1), of(5, 3, 6, 5, 1, 7)}
	for round := range 200 {
		d := dice(round)
		x := shut(t, 3, sealed(own))
		left := []int{0, 1, 2, 3, 4, 5}
		for len(left) > 0 {
			i := d.next(len(left))
			wantErrno(t, api.OK, x.Show(left[i], own[left[i]], 1))
			left = slices.Delete(left, i, i+1)
			wantLooks(t, x, api.TenderShut, left...)
		}
		wantClosed(t, x, 3, slices.Concat(own...))
	}
}

// P5.5: a copy and its original go separate ways, from each state on.
func TestCopy(t *testing.T) {
	own := [][]api.Offer{of(0, 1, 4), of(1, 1, 3, 1, 2, 2), of(2, 3, 5)}
	x := begun(t, 2)
	wantErrno(t, api.OK, x.Submit(0, tender.Seal(own[0], 1)))
	early := x.Copy()
	wantLooks(t, early, api.TenderOpen, 0)
	wantErrno(t, api.OK, x.Submit(1, tender.Seal(own[1], 1)))
	wantErrno(t, api.OK, early.Submit(0, tender.Seal(nil, 5)))
	wantErrno(t, api.OK, early.Submit(2, tender.Seal(own[2], 1)))
	wantErrno(t, api.OK, early.Shut())
	wantLooks(t, x, api.TenderOpen, 0, 1)
	wantLooks(t, early, api.TenderShut, 0, 2)
	wantErrno(t, api.OK, x.Shut())
	wantErrno(t, api.OK, x.Show(0, own[0], 1))
	wantErrno(t, api.OK, early.Show(0, nil, 5))

	late := x.Copy()
	wantLooks(t, late, api.TenderShut, 1)
	wantErrno(t, api.ErrExists, late.Show(0, own[0], 1))
	wantErrno(t, api.OK, late.Show(1, own[1], 1))
	wantLooks(t, x, api.TenderShut, 1)
	wantClosed(t, x, 2, own[0])
	wantLooks(t, late, api.TenderShut)
	wantClosed(t, late, 2, slices.Concat(own[0], own[1]))
	wantErrno(t, api.OK, early.Show(2, own[2], 1))
	done := x.Copy()
	wantLooks(t, done, api.TenderDone, 1)
	wantNotClosed(t, done, api.ErrState)
	wantClosed(t, early, 2, own[2])
}

// Rule 3: a nil Tender, and a zero one.
func TestNilTender(t *testing.T) {
	for _, x := range []*tender.Tender{nil, {}, new(tender.Tender)} {
		for _, b := range []int{0, 3, -1, 8, minInt, maxInt} {
			wantErrno(t, api.ErrNil, x.Submit(b, 1))
			wantErrno(t, api.ErrNil, x.Show(b, of(b, 0, 0), 1))
			wantErrno(t, api.ErrNil, x.Show(b, nil, 0))
		}
		wantErrno(t, api.ErrNil, x.Shut())
		wantNotClosed(t, x, api.ErrNil)
		wantLooks(t, x, api.TenderDone)
		if x.Copy() != nil {
			t.Error("a nil or zero tender has a copy")
		}
	}
}
