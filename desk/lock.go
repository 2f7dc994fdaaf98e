package desk

import (
	"slices"

	"kimberlite/api"
)

// item is an item, the locks on it, and the requests that wait for one.
type item struct {
	// value is what is read; kept is what it is again if who wrote it dies.
	value, kept int

	// holders, ascending, have the same kind of lock: just one, or all a shared one.
	holders   []int
	exclusive bool

	// queue are the steps that are done when their locks are granted.
	queue []api.Event
}

// areCompatible reports whether the locks for two steps on one item are.
func areCompatible(s, other api.Event) bool {
	return s.What == api.EventRead && other.What == api.EventRead
}

// allows reports whether the lock for a step is compatible with all that others hold.
func (it *item) allows(s api.Event) bool { return len(it.against(s)) == 0 }

// against returns those others who hold a lock that is not compatible with a step's.
func (it *item) against(s api.Event) []int {
	if s.What == api.EventRead && !it.exclusive {
		return nil
	}
	return slices.DeleteFunc(slices.Clone(it.holders), func(holder int) bool { return holder == s.Txn })
}

// isFree reports whether a step can be done at once.
func (it *item) isFree(s api.Event) bool {
	return it.allows(s) && (len(it.queue) == 0 || it.isHeldBy(s.Txn))
}

func (it *item) isHeldBy(txn int) bool {
	_, found := slices.BinarySearch(it.holders, txn)
	return found
}

// hold gives a transaction the lock for a step.
func (it *item) hold(s api.Event) {
	if at, found := slices.BinarySearch(it.holders, s.Txn); !found {
		it.holders = slices.Insert(it.holders, at, s.Txn)
	}
	it.exclusive = it.exclusive || s.What == api.EventWrite
}

// enqueue lets a step wait: an upgrade behind the other upgrades, which are the first
// in the queue, and what is none at the end.
func (it *item) enqueue(s api.Event) {
	at := len(it.queue)
	if it.isHeldBy(s.Txn) {
		at = 0
		for at < len(it.queue) && it.isHeldBy(it.queue[at].Txn) {
			at++
		}
	}
	it.queue = slices.Insert(it.queue, at, s)
}

// leave takes away the lock and the request of a transaction that has ended.
func (it *item) leave(txn int, committed bool) {
	if at, found := slices.BinarySearch(it.holders, txn); found {
		it.holders = slices.Delete(it.holders, at, at+1)
		it.exclusive = false
		// Nobody else wrote the item: where there were several holders, none did.
		if committed {
			it.kept = it.value
		} else {
			it.value = it.kept
		}
	}
	it.queue = slices.DeleteFunc(it.queue, func(s api.Event) bool { return s.Txn == txn })
}

// ahead returns those for whom a transaction's request for the item waits, if it has
// one; one may be there twice.
func (it *item) ahead(txn int) []int {
	at := slices.IndexFunc(it.queue, func(s api.Event) bool { return s.Txn == txn })
	if at < 0 {
		return nil
	}
	others := it.against(it.queue[at])
	for _, before := range it.queue[:at] {
		if !areCompatible(before, it.queue[at]) {
			others = append(others, before.Txn)
		}
	}
	return others
}
