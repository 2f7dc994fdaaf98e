package desk

import (
	"slices"

	"kimberlite/api"
)

// State returns the state of a transaction.
func (d *Desk) State(txn int) (int, api.Errno) {
	if e := d.check(txn); e != api.OK {
		return 0, e
	}
	return d.find(txn).state, api.OK
}

// Got returns what the last step of an active transaction read, if it had to wait.
func (d *Desk) Got(txn int) (int, bool, api.Errno) {
	if e := d.check(txn); e != api.OK {
		return 0, false, e
	}
	x := d.find(txn)
	if x.state != api.TxnActive || !x.waited {
		return 0, false, api.OK
	}
	return x.got, true, api.OK
}

// Waits returns the transactions for which a transaction waits.
func (d *Desk) Waits(txn int) ([]int, api.Errno) {
	if e := d.check(txn); e != api.OK {
		return nil, e
	}
	return d.waitsFor(txn), api.OK
}

// Holders returns the transactions that hold a lock on an item, and whether that is an
// exclusive one.
func (d *Desk) Holders(item int) ([]int, bool, api.Errno) {
	if e := d.checkItem(item); e != api.OK {
		return nil, false, e
	}
	it := d.items[item]
	return slices.Clone(it.holders), it.exclusive, api.OK
}

// Queue returns the transactions whose requests wait for an item.
func (d *Desk) Queue(item int) ([]int, api.Errno) {
	if e := d.checkItem(item); e != api.OK {
		return nil, e
	}
	var queue []int
	for _, s := range d.items[item].queue {
		queue = append(queue, s.Txn)
	}
	return queue, api.OK
}

// Values returns the values of the items without what was written by transactions that
// have not ended.
func (d *Desk) Values() []int {
	if !d.isMade() {
		return nil
	}
	var values []int
	for _, it := range d.items {
		values = append(values, it.kept)
	}
	return values
}

// Events returns what happened, in order.
func (d *Desk) Events() []api.Event {
	if !d.isMade() {
		return nil
	}
	return slices.Clone(d.events)
}

// Copy returns a desk of its own, which is as this one is now.
func (d *Desk) Copy() *Desk {
	if !d.isMade() {
		return nil
	}
	other := &Desk{items: slices.Clone(d.items), txns: slices.Clone(d.txns), events: slices.Clone(d.events)}
	for i := range other.items {
		it := &other.items[i]
		it.holders = slices.Clone(it.holders)
		it.queue = slices.Clone(it.queue)
	}
	return other
}

// checkItem returns the error of a call that looks at an item.
func (d *Desk) checkItem(item int) api.Errno {
	if !d.isMade() {
		return api.ErrNil
	}
	if !d.isItem(item) {
		return api.ErrArg
	}
	return api.OK
}
