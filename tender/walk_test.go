package tender_test

import (
	"slices"
	"testing"

	"kimberlite/api"
	"kimberlite/tender"
)

// own is offers that somebody may seal with a salt.
type own struct {
	offers []api.Offer
	salt   uint64
}

// ledger is a tender as the tests see it, in the chapter's words.
type ledger struct {
	lots, state int
	seals       map[int]uint64
	shown       map[int][]api.Offer
}

func (g *ledger) submit(buyer int, seal uint64) api.Errno {
	if g.state != api.TenderOpen {
		return api.ErrState
	}
	if !isBuyer(buyer) {
		return api.ErrArg
	}
	g.seals[buyer] = seal
	return api.OK
}

func (g *ledger) shut() api.Errno {
	if g.state != api.TenderOpen {
		return api.ErrState
	}
	g.state = api.TenderShut
	return api.OK
}

func (g *ledger) show(buyer int, o own) api.Errno {
	if g.state != api.TenderShut {
		return api.ErrState
	}
	if !isBuyer(buyer) {
		return api.ErrArg
	}
	seal, ok := g.seals[buyer]
	if !ok {
		return api.ErrNone
	}
	if _, ok := g.shown[buyer]; ok {
		return api.ErrExists
	}
	if sealOf(o.offers, o.salt) != seal {
		return api.ErrProof
	}
	if len(o.offers) > maxOwn {
		return api.ErrLimit
	}
	for _, offer := range o.offers {
		if !isValid(g.lots, offer) || offer.Buyer != buyer {
			return api.ErrArg
		}
	}
	if len(g.list())+len(o.offers) > maxOffers {
		return api.ErrFull
	}
	g.shown[buyer] = o.offers
	return api.OK
}

// list is the offers that were shown, in the order of Close.
func (g *ledger) list() []api.Offer {
	var l []api.Offer
	for b := range maxBuyer + 1 {
		l = append(l, g.shown[b]...)
	}
	return l
}

func (g *ledger) missing() []int {
	var l []int
	for b := range maxBuyer + 1 {
		_, sealed := g.seals[b]
		if _, ok := g.shown[b]; sealed && !ok {
			l = append(l, b)
		}
	}
	return l
}

func (g *ledger) copy() *ledger {
	other := &ledger{g.lots, g.state, map[int]uint64{}, map[int][]api.Offer{}}
	for b, s := range g.seals {
		other.seals[b] = s
	}
	for b, l := range g.shown {
		other.shown[b] = l
	}
	return other
}

// walker takes a tender and its ledger through the same calls.
type walker struct {
	t     *testing.T
	d     *dice
	x     *tender.Tender
	g     *ledger
	count map[api.Errno]int
}

// stake is what a buyer may seal: mostly valid offers, up to 4 of their own.
func (w *walker) stake(buyer int) own {
	d := w.d
	count := d.next(maxOwn + 1)
	if d.next(12) == 0 {
		count += 2
	}
	l := d.offers(count, 1, w.g.lots, 3)
	for i := range l {
		l[i].Buyer = buyer
		if d.next(40) == 0 {
			l[i] = of(buyer, 1<<w.g.lots, 1, buyer, 1, 0, buyer+1, 1, 1)[d.next(3)]
		}
	}
	return own{l, uint64(d.next(2))}
}

// wantSame fails unless a call gave the ledger's error, and the tender then looks,
// and would close, as the ledger does.
func (w *walker) wantSame(want, got api.Errno) {
	w.t.Helper()
	w.count[want]++
	wantErrno(w.t, want, got)
	wantLooks(w.t, w.x, w.g.state, w.g.missing()...)
	if c := w.x.Copy(); w.g.state != api.TenderDone {
		wantErrno(w.t, map[int]api.Errno{api.TenderOpen: api.OK, api.TenderShut: api.ErrState}[w.g.state], c.Shut())
		w.wantClosed(c)
	}
}

// wantClosed fails unless Close gives the ledger's offers, and Decide's award.
func (w *walker) wantClosed(x *tender.Tender) {
	w.t.Helper()
	want, _ := tender.Decide(w.g.lots, w.g.list())
	a, l, e := x.Close()
	if e != api.OK || !same(a, want) || !slices.Equal(l, w.g.list()) {
		w.t.Fatalf("%d lots: closed with %v of %v, error %d; want %v of %v", w.g.lots, a, l, e, want, w.g.list())
	}
	wantLooks(w.t, x, api.TenderDone, w.g.missing()...)
}

// show lets a buyer show what they sealed, or something else.
func (w *walker) show(buyer int, stakes map[int]own) {
	w.t.Helper()
	o := stakes[buyer]
	switch w.d.next(8) {
	case 0:
		o = w.stake(buyer)
	case 1:
		o.salt++
	case 2:
		o = stakes[w.d.next(maxBuyer+1)]
	}
	w.wantSame(w.g.show(buyer, o), w.x.Show(buyer, o.offers, o.salt))
}

// step makes one call, or goes on with a copy.
func (w *walker) step(stakes map[int]own, steps int) {
	w.t.Helper()
	d := w.d
	buyer := d.next(maxBuyer + 1)
	if d.next(20) == 0 {
		buyer = anyInts()[d.next(len(anyInts()))]
	}
	switch n := d.next(20); {
	case n == 0 && d.next(2) == 0:
		w.x, w.g = w.x.Copy(), w.g.copy()
		w.wantSame(api.OK, api.OK)
	case n == 1 && steps > 12 || n < 4 && steps > 40:
		w.wantSame(w.g.shut(), w.x.Shut())
	case n == 4 && w.g.state != api.TenderShut:
		wantNotClosed(w.t, w.x, api.ErrState)
	case n == 5 && steps > 90:
		if w.g.state == api.TenderShut {
			w.wantClosed(w.x)
			w.g.state = api.TenderDone
		}
	case n < 12 && w.g.state == api.TenderOpen || n < 7:
		o := w.stake(buyer)
		e := w.g.submit(buyer, sealOf(o.offers, o.salt))
		if e == api.OK {
			stakes[buyer] = o
		}
		w.wantSame(e, w.x.Submit(buyer, sealOf(o.offers, o.salt)))
	default:
		w.show(buyer, stakes)
	}
}

// P5.5: any calls in any order, all errors, and copies.
func TestWalks(t *testing.T) {
	count := map[api.Errno]int{}
	for round := range 400 {
		d := dice(round)
		lots := 1 + d.next(4)
		w := walker{t, &d, begun(t, lots), &ledger{lots, api.TenderOpen, map[int]uint64{}, map[int][]api.Offer{}}, count}
		stakes := map[int]own{}
		for steps := range 120 {
			w.step(stakes, steps)
		}
	}
	for _, e := range []api.Errno{api.OK, api.ErrState, api.ErrArg, api.ErrNone, api.ErrExists, api.ErrProof, api.ErrLimit, api.ErrFull} {
		if count[e] < 50 {
			t.Errorf("error %d came only %d times", e, count[e])
		}
	}
}
