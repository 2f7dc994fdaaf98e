package desk

import (
	"slices"

	"kimberlite/api"
)

// waitsFor returns, ascending, the transactions for which a transaction waits.
func (d *Desk) waitsFor(txn int) []int {
	var others []int
	for i := range d.items {
		others = append(others, d.items[i].ahead(txn)...)
	}
	slices.Sort(others)
	return slices.Compact(others)
}

// breakRings lets the youngest on a ring through a transaction die, until there is no
// such ring.
func (d *Desk) breakRings(txn int) {
	for dying := d.youngest(txn); dying > 0; dying = d.youngest(txn) {
		d.end(dying, api.TxnDead)
	}
}

// youngest returns the youngest of all that are on a ring through a transaction; 0 if
// there is no such ring.
func (d *Desk) youngest(txn int) int {
	youngest := 0
	// Of those that were looked at, whether they wait for txn, directly or through others.
	leads := map[int]bool{}
	var look func(at int) bool
	look = func(at int) bool {
		if known, found := leads[at]; found {
			return known
		}
		on := false
		for _, other := range d.waitsFor(at) {
			// All rings go through txn, since there was none before its request: so
			// nobody is met again while they are being looked at.
			if other == txn || look(other) {
				on = true
			}
		}
		leads[at] = on
		if on {
			youngest = max(youngest, at)
		}
		return on
	}
	look(txn)
	return youngest
}
