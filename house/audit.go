package house

import (
	"slices"

	"kimberlite/api"
	"kimberlite/proof"
)

// Audit returns how much there is in the house, and whether all is as it should be.
func (h *House) Audit() api.Audit {
	if !h.isMade() {
		return api.Audit{}
	}
	a := api.Audit{Commands: h.log.Len(), Stones: len(h.stones), Parcels: len(h.parcels), Root: h.log.Root()}
	for _, s := range h.stones {
		switch {
		case s.parcel == "":
			a.Loose++
		case h.parcels[s.parcel] == sold:
			a.Sold++
		}
	}
	for _, value := range h.accounts {
		a.Money += value
	}
	a.Good = h.isKept() && a.Money == 0 && h.isProven() && h.isTwoKeyed()
	return a
}

// isKept reports whether every stone is loose or in a parcel.
func (h *House) isKept() bool {
	isLost := func(s stone) bool {
		_, ok := h.parcels[s.parcel]
		return s.parcel != "" && !ok
	}
	return !slices.ContainsFunc(h.stones, isLost)
}

// isProven reports whether every entry of the log has a proof that it is there.
func (h *House) isProven() bool {
	n, root := h.log.Len(), h.log.Root()
	for i := range n {
		entry, _ := h.log.Entry(i)
		steps, _ := h.log.Include(i, n)
		if in, _ := proof.Included(entry, i, n, root, steps); !in {
			return false
		}
	}
	return true
}

// isTwoKeyed reports whether every vault was opened by grants of two roots.
func (h *House) isTwoKeyed() bool {
	for _, entry := range h.custody.Entries() {
		first, _ := h.custody.Get(entry.First)
		second, _ := h.custody.Get(entry.Second)
		if first.Root == second.Root {
			return false
		}
	}
	return true
}
