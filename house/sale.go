package house

import (
	"cmp"
	"slices"
	"strconv"

	"kimberlite/api"
	"kimberlite/tender"
)

// isLot reports whether a parcel is in the tender.
func (h *House) isLot(parcel string) bool { return slices.Contains(h.lots, parcel) }

// needTender returns the error of a house that has no tender.
func (h *House) needTender() api.Errno { return errIf(h.tender == nil, api.ErrNone) }

// needBuyer returns the error of a buyer who may not take part: there is the tender, or
// no such buyer.
func (h *House) needBuyer(buyer int) api.Errno {
	return cmp.Or(h.needTender(), errIf(buyer < 1 || buyer > api.MaxBuyer, api.ErrArg))
}

// openTender opens a tender of parcels.
type openTender struct{ parcels []string }

func (c openTender) carry(h *House) (string, api.Errno) {
	if e := cmp.Or(errIf(h.tender != nil, api.ErrState), h.needLots(c.parcels)); e != api.OK {
		return "", e
	}
	t, e := tender.New(len(c.parcels))
	if e != api.OK {
		return "", e
	}
	h.tender, h.lots = t, c.parcels
	return done, api.OK
}

// needLots returns the error of the first parcel that cannot be in a tender with those
// before it.
func (h *House) needLots(parcels []string) api.Errno {
	for i, name := range parcels {
		p, e := h.find(name)
		stood := slices.Contains(parcels[:i], name)
		if e := cmp.Or(e, errIf(p == sold, api.ErrState), errIf(stood, api.ErrExists)); e != api.OK {
			return e
		}
	}
	return api.OK
}

// seal hands in a buyer's seal.
type seal struct {
	buyer int
	seal  uint64
}

func (c seal) carry(h *House) (string, api.Errno) {
	if e := h.needBuyer(c.buyer); e != api.OK {
		return "", e
	}
	return done, h.tender.Submit(c.buyer, c.seal)
}

// shutTender ends the time for seals.
type shutTender struct{}

func (shutTender) carry(h *House) (string, api.Errno) {
	if e := h.needTender(); e != api.OK {
		return "", e
	}
	return done, h.tender.Shut()
}

// bid is an offer without its buyer.
type bid struct{ lots, price int }

func (p *params) bid() bid { return bid{p.number(), p.number()} }

// show shows what a buyer sealed.
type show struct {
	buyer int
	salt  uint64
	bids  []bid
}

func (c show) carry(h *House) (string, api.Errno) {
	if e := h.needBuyer(c.buyer); e != api.OK {
		return "", e
	}
	var offers []api.Offer
	for _, b := range c.bids {
		offers = append(offers, api.Offer{Buyer: c.buyer, Lots: b.lots, Price: b.price})
	}
	return done, h.tender.Show(c.buyer, offers, c.salt)
}

// closeTender sells the parcels of the offers that are taken.
type closeTender struct{}

func (closeTender) carry(h *House) (string, api.Errno) {
	if e := h.needTender(); e != api.OK {
		return "", e
	}
	// It is a copy that is closed, since the payments can still be refused.
	award, offers, e := h.tender.Copy().Close()
	if e != api.OK {
		return "", e
	}
	words, lots := []string{strconv.Itoa(award.Worth)}, 0
	var payments []api.Op
	for i, taken := range award.Taken {
		buyer, pays := offers[taken].Buyer, award.Pays[i]
		payments = append(payments, transfer{from: buyer, to: houseAccount, cents: pays}.ops()...)
		words = append(words, strconv.Itoa(buyer)+":"+strconv.Itoa(pays))
		lots |= offers[taken].Lots
	}
	if _, e := h.pay([][]api.Op{payments}); e != api.OK {
		return "", e
	}
	h.sell(lots)
	return listed(words), api.OK
}

// sell ends the tender, of which these lots (bits) are sold.
func (h *House) sell(lots int) {
	for i, name := range h.lots {
		if lots>>i&1 == 1 {
			h.parcels[name] = sold
		}
	}
	h.tender, h.lots = nil, nil
}
