package desk_test

import (
	"testing"

	"kimberlite/api"
)

// Readers share; a writer does not, whoever came first.
func TestShare(t *testing.T) {
	d := begun(t, 5, 3)
	for _, txn := range []int{4, 1, 3} {
		wantNumber(t, 3)(d.Read(txn, 0))
	}
	wantHolders(t, d, 0, false, 1, 3, 4)
	wantErrno(t, api.ErrLock, d.Write(2, 0, 9))
	wantWaits(t, d, 2, 1, 3, 4)
	wantErrno(t, api.OK, d.Commit(3))
	wantErrno(t, api.OK, d.Abort(4))
	wantWaits(t, d, 2, 1)
	wantStates(t, d, api.TxnActive, api.TxnWaiting)
	wantErrno(t, api.OK, d.Commit(1))
	wantHolders(t, d, 0, true, 2)
	wantRefused(t, api.ErrLock)(d.Read(5, 0))
	wantWaits(t, d, 5, 2)
}

// Who reads waits behind a writer who waits; but not who has a shared lock already.
func TestBehind(t *testing.T) {
	d := begun(t, 6, 3)
	wantNumber(t, 3)(d.Read(1, 0))
	wantNumber(t, 3)(d.Read(2, 0))
	wantErrno(t, api.ErrLock, d.Write(3, 0, 4))
	wantRefused(t, api.ErrLock)(d.Read(4, 0))
	wantRefused(t, api.ErrLock)(d.Read(5, 0))
	wantErrno(t, api.ErrLock, d.Write(6, 0, 7))
	wantQueue(t, d, 0, 3, 4, 5, 6)
	wantWaits(t, d, 4, 3)
	wantWaits(t, d, 5, 3)
	wantWaits(t, d, 6, 1, 2, 3, 4, 5)
	wantNumber(t, 3)(d.Read(1, 0))
	wantQueue(t, d, 0, 3, 4, 5, 6)
	wantErrno(t, api.OK, d.Commit(1))
	wantErrno(t, api.OK, d.Commit(2))
	wantHolders(t, d, 0, true, 3)
	wantQueue(t, d, 0, 4, 5, 6)
	// Both readers come at once, and the writer behind them only after both.
	wantErrno(t, api.OK, d.Commit(3))
	wantHolders(t, d, 0, false, 4, 5)
	wantGot(t, d, 4, 4)
	wantGot(t, d, 5, 4)
	wantErrno(t, api.OK, d.Commit(5))
	wantQueue(t, d, 0, 6)
	wantErrno(t, api.OK, d.Commit(4))
	wantHolders(t, d, 0, true, 6)
}

// It is granted from the first request on: one that could be granted waits behind one
// that cannot.
func TestFirstDecides(t *testing.T) {
	d := begun(t, 5, 3)
	wantErrno(t, api.OK, d.Write(1, 0, 4))
	wantRefused(t, api.ErrLock)(d.Read(2, 0))
	wantErrno(t, api.ErrLock, d.Write(3, 0, 6))
	wantRefused(t, api.ErrLock)(d.Read(4, 0))
	wantWaits(t, d, 4, 1, 3)
	wantErrno(t, api.OK, d.Commit(1))
	wantStates(t, d, api.TxnDone, api.TxnActive, api.TxnWaiting, api.TxnWaiting)
	wantRefused(t, api.ErrLock)(d.Read(5, 0))
	wantQueue(t, d, 0, 3, 4, 5)
	wantErrno(t, api.OK, d.Abort(3))
	wantHolders(t, d, 0, false, 2, 4, 5)
}

// An upgrade is granted at once to who holds the only lock, whoever waits.
func TestUpgradeAtOnce(t *testing.T) {
	d := begun(t, 3, 3)
	wantNumber(t, 3)(d.Read(2, 0))
	wantErrno(t, api.ErrLock, d.Write(3, 0, 5))
	wantRefused(t, api.ErrLock)(d.Read(1, 0))
	wantWaits(t, d, 1, 3)
	wantErrno(t, api.OK, d.Write(2, 0, 4))
	wantNotGot(t, d, 2, api.OK)
	wantHolders(t, d, 0, true, 2)
	wantQueue(t, d, 0, 3, 1)
	wantWaits(t, d, 1, 2, 3)
	wantErrno(t, api.OK, d.Write(2, 0, 8))
	wantNumber(t, 8)(d.Read(2, 0))
	wantErrno(t, api.OK, d.Abort(2))
	wantHolders(t, d, 0, true, 3)
	wantErrno(t, api.OK, d.Abort(3))
	wantGot(t, d, 1, 3)
}

// An upgrade waits ahead of all that is none.
func TestUpgradeAhead(t *testing.T) {
	d := begun(t, 5, 3)
	wantNumber(t, 3)(d.Read(1, 0))
	wantNumber(t, 3)(d.Read(2, 0))
	wantErrno(t, api.ErrLock, d.Write(3, 0, 5))
	wantRefused(t, api.ErrLock)(d.Read(4, 0))
	wantErrno(t, api.ErrLock, d.Write(2, 0, 6))
	wantQueue(t, d, 0, 2, 3, 4)
	wantWaits(t, d, 2, 1)
	wantWaits(t, d, 3, 1, 2)
	wantWaits(t, d, 4, 2, 3)
	wantHolders(t, d, 0, false, 1, 2)
	wantErrno(t, api.ErrLock, d.Write(5, 0, 7))
	wantQueue(t, d, 0, 2, 3, 4, 5)
	wantErrno(t, api.OK, d.Commit(1))
	wantHolders(t, d, 0, true, 2)
	wantGot(t, d, 2, 0)
	wantQueue(t, d, 0, 3, 4, 5)
	wantErrno(t, api.OK, d.Commit(2))
	wantHolders(t, d, 0, true, 3)
	wantValues(t, d, 6)
}

// Two upgrades of one item wait for each other; several at the same time are there
// only until the younger ones have died.
func TestUpgradesMeet(t *testing.T) {
	d := begun(t, 3, 3)
	for _, txn := range []int{1, 2, 3} {
		wantNumber(t, 3)(d.Read(txn, 0))
	}
	wantErrno(t, api.ErrLock, d.Write(2, 0, 5))
	wantErrno(t, api.ErrDead, d.Write(3, 0, 6))
	wantStates(t, d, api.TxnActive, api.TxnWaiting, api.TxnDead)
	wantWaits(t, d, 2, 1)
	// The older one comes later, and gets it at the end of the call.
	wantErrno(t, api.ErrLock, d.Write(1, 0, 7))
	wantStates(t, d, api.TxnActive, api.TxnDead, api.TxnDead)
	wantGot(t, d, 1, 0)
	wantHolders(t, d, 0, true, 1)
	wantErrno(t, api.OK, d.Commit(1))
	wantValues(t, d, 7)
}

// What is granted when one ends is granted item by item, and in each queue in order.
func TestGrantOrder(t *testing.T) {
	d := begun(t, 7, 0, 10, 20)
	for _, item := range []int{2, 0, 1} {
		wantErrno(t, api.OK, d.Write(1, item, 5+item))
	}
	wantRefused(t, api.ErrLock)(d.Read(2, 2))
	wantRefused(t, api.ErrLock)(d.Read(5, 1))
	wantRefused(t, api.ErrLock)(d.Read(4, 1))
	wantErrno(t, api.ErrLock, d.Write(7, 1, 9))
	wantRefused(t, api.ErrLock)(d.Read(6, 0))
	wantErrno(t, api.ErrLock, d.Write(3, 2, 8))
	c := d.Copy()
	wantErrno(t, api.OK, d.Commit(1))
	wantEvents(t, d, 3, 1, api.EventCommit, 0, 0, 6, api.EventRead, 0, 5, 5, api.EventRead, 1, 6, 4, api.EventRead, 1, 6, 2, api.EventRead, 2, 7)
	wantErrno(t, api.OK, c.Abort(1))
	wantEvents(t, c, 3, 1, api.EventDeath, 0, 0, 6, api.EventRead, 0, 0, 5, api.EventRead, 1, 10, 4, api.EventRead, 1, 10, 2, api.EventRead, 2, 20)
	wantQueue(t, d, 1, 7)
	wantQueue(t, d, 2, 3)
}

// Locks are kept until the end, also those of what was only read.
func TestKept(t *testing.T) {
	d := begun(t, 2, 0, 0)
	wantNumber(t, 0)(d.Read(1, 0))
	wantErrno(t, api.OK, d.Write(1, 1, 2))
	wantNumber(t, 0)(d.Read(1, 0))
	wantHolders(t, d, 0, false, 1)
	wantHolders(t, d, 1, true, 1)
	wantErrno(t, api.ErrLock, d.Write(2, 0, 1))
	wantErrno(t, api.OK, d.Write(1, 0, 3))
	wantHolders(t, d, 0, true, 1)
	wantStates(t, d, api.TxnActive, api.TxnWaiting)
}

// All that can be under way at a time, in one queue.
func TestLongQueue(t *testing.T) {
	d := begun(t, maxTxns, 0)
	wantErrno(t, api.OK, d.Write(1, 0, 1))
	var want, waits []int
	for txn := 2; txn <= maxTxns; txn++ {
		wantErrno(t, api.ErrLock, d.Write(txn, 0, txn))
		want = append(want, txn)
	}
	wantQueue(t, d, 0, want...)
	for txn := 1; txn < maxTxns; txn++ {
		waits = append(waits, txn)
	}
	wantWaits(t, d, maxTxns, waits...)
	for txn := 1; txn <= maxTxns; txn++ {
		wantHolders(t, d, 0, true, txn)
		wantErrno(t, api.OK, d.Commit(txn))
		wantValues(t, d, txn)
	}
}

// All at once read an item, and then each wants to write it.
func TestManyUpgrades(t *testing.T) {
	d := begun(t, maxTxns, 0)
	for txn := 1; txn <= maxTxns; txn++ {
		wantNumber(t, 0)(d.Read(txn, 0))
	}
	wantErrno(t, api.ErrLock, d.Write(100, 0, 5))
	for txn := 101; txn <= maxTxns; txn++ {
		wantErrno(t, api.ErrDead, d.Write(txn, 0, 5))
	}
	// Of all that are older, each younger one that waits gives way.
	for txn := 99; txn >= 1; txn-- {
		wantErrno(t, api.ErrLock, d.Write(txn, 0, txn))
		wantQueue(t, d, 0, []int{txn}[:min(1, txn-1)]...)
	}
	wantHolders(t, d, 0, true, 1)
	wantGot(t, d, 1, 0)
}
