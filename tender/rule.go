package tender

import (
	"slices"

	"kimberlite/api"
)

// Best returns the choice of offers that is worth the most, and its worth. Of
// several it is the one that prefers the offers of lower indexes.
func Best(lots int, offers []api.Offer) ([]int, int, api.Errno) {
	if e := checkOffers(lots, offers); e != api.OK {
		return nil, 0, e
	}
	choice, worth := best(offers, 0)
	var taken []int
	for i := range offers {
		if choice>>i&1 == 1 {
			taken = append(taken, i)
		}
	}
	return taken, worth, api.OK
}

// Decide takes the choice of Best, and lets each buyer pay what the others would
// have been worth more without them.
func Decide(lots int, offers []api.Offer) (api.Award, api.Errno) {
	taken, worth, e := Best(lots, offers)
	if e != api.OK {
		return api.Award{}, e
	}
	award := api.Award{Taken: taken, Worth: worth}
	for _, i := range taken {
		o := offers[i]
		_, without := best(offers, 1<<o.Buyer)
		award.Pays = append(award.Pays, without-(worth-o.Price))
	}
	return award, api.OK
}

// Gain returns what a buyer gets by Decide, as worth tells it of each set of lots,
// less what they pay.
func Gain(lots int, offers []api.Offer, buyer int, worth []int) (int, api.Errno) {
	award, e := Decide(lots, offers)
	if e != api.OK {
		return 0, e
	}
	notWorth := func(n int) bool { return n < 0 || n > api.MaxPrice }
	if !isBuyer(buyer) || len(worth) != 1<<lots || slices.ContainsFunc(worth, notWorth) {
		return 0, api.ErrArg
	}
	for k, i := range award.Taken {
		if o := offers[i]; o.Buyer == buyer {
			return worth[o.Lots] - award.Pays[k], api.OK
		}
	}
	return 0, api.OK
}

// best returns the choice of greatest worth, as a set of bits, and its worth, among
// the offers of all buyers but those of the set without.
func best(offers []api.Offer, without int) (choice, worth int) {
	// search does so for the offers from i on, of which none may be for a lot of
	// gone, or of a buyer of served.
	var search func(i, gone, served int) (choice, worth int)
	search = func(i, gone, served int) (int, int) {
		if i == len(offers) {
			return 0, 0
		}
		choice, worth := search(i+1, gone, served)
		o := offers[i]
		if gone&o.Lots != 0 || served>>o.Buyer&1 == 1 {
			return choice, worth
		}
		with, more := search(i+1, gone|o.Lots, served|1<<o.Buyer)
		if more+o.Price < worth {
			return choice, worth
		}
		return with | 1<<i, more + o.Price
	}
	return search(0, 0, without)
}

// checkOffers returns the error of offers for so many lots.
func checkOffers(lots int, offers []api.Offer) api.Errno {
	if !isLots(lots) {
		return api.ErrArg
	}
	if len(offers) > api.MaxOffers {
		return api.ErrLimit
	}
	for _, o := range offers {
		if !valid(lots, o) {
			return api.ErrArg
		}
	}
	return api.OK
}

// valid reports whether an offer is valid for so many lots.
func valid(lots int, o api.Offer) bool {
	return isBuyer(o.Buyer) && 1 <= o.Lots && o.Lots < 1<<lots && 1 <= o.Price && o.Price <= api.MaxPrice
}

func isLots(lots int) bool { return 1 <= lots && lots <= api.MaxLots }

func isBuyer(buyer int) bool { return 0 <= buyer && buyer <= api.MaxBuyer }
