package desk_test

import (
	"testing"

	"kimberlite/api"
)

// Example 1 of the chapter, with what can be seen of it.
func TestRingOfTwo(t *testing.T) {
	d := begun(t, 2, 0, 0)
	wantErrno(t, api.OK, d.Write(1, 0, 5))
	wantErrno(t, api.OK, d.Write(2, 1, 7))
	wantRefused(t, api.ErrLock)(d.Read(1, 1))
	wantWaits(t, d, 1, 2)
	wantRefused(t, api.ErrDead)(d.Read(2, 0))
	wantStates(t, d, api.TxnActive, api.TxnDead)
	wantGot(t, d, 1, 0)
	wantValues(t, d, 0, 0)
	wantHolders(t, d, 0, true, 1)
	wantHolders(t, d, 1, false, 1)
	wantQueue(t, d, 0)
	wantQueue(t, d, 1)
	wantEvents(t, d, 0, 1, api.EventWrite, 0, 5, 2, api.EventWrite, 1, 7, 2, api.EventDeath, 0, 0, 1, api.EventRead, 1, 0)
	wantErrno(t, api.ErrDead, d.Commit(2))
	wantErrno(t, api.OK, d.Commit(1))
	wantValues(t, d, 5, 0)
}

// The older one closes the ring: the younger one dies, and the older one is granted
// its lock before the call ends, which says all the same that it had to wait.
func TestOlderCloses(t *testing.T) {
	d := begun(t, 2, 1, 2)
	wantErrno(t, api.OK, d.Write(1, 0, 5))
	wantErrno(t, api.OK, d.Write(2, 1, 7))
	wantRefused(t, api.ErrLock)(d.Read(2, 0))
	wantRefused(t, api.ErrLock)(d.Read(1, 1))
	wantStates(t, d, api.TxnActive, api.TxnDead)
	wantGot(t, d, 1, 2)
	wantWaits(t, d, 1)
	wantEvents(t, d, 2, 2, api.EventDeath, 0, 0, 1, api.EventRead, 1, 2)
}

// A ring of three, closed by each of them: the youngest dies, and nobody else.
func TestRingOfThree(t *testing.T) {
	for closer := 1; closer <= 3; closer++ {
		d := begun(t, 4, 10, 20, 30)
		for txn := 1; txn <= 3; txn++ {
			wantErrno(t, api.OK, d.Write(txn, txn-1, txn))
		}
		// 1 waits for 2, 2 for 3, 3 for 1.
		for i := 1; i <= 3; i++ {
			txn := (closer+i-1)%3 + 1
			want := api.ErrLock
			if i == 3 && txn == 3 {
				want = api.ErrDead
			}
			wantErrno(t, want, d.Write(txn, txn%3, 100*txn))
		}
		wantStates(t, d, api.TxnWaiting, api.TxnActive, api.TxnDead, api.TxnActive)
		wantWaits(t, d, 1, 2)
		wantGot(t, d, 2, 0)
		wantValues(t, d, 10, 20, 30)
		wantErrno(t, api.OK, d.Commit(2))
		wantErrno(t, api.OK, d.Commit(1))
		wantValues(t, d, 1, 100, 200)
	}
}

// Who is younger than all on the ring, and waits for it, does not die.
func TestBesideRing(t *testing.T) {
	d := begun(t, 4, 10, 20, 30)
	wantErrno(t, api.OK, d.Write(1, 0, 1))
	wantErrno(t, api.OK, d.Write(2, 1, 2))
	wantErrno(t, api.OK, d.Write(3, 2, 3))
	wantRefused(t, api.ErrLock)(d.Read(4, 0)) // for 1
	wantRefused(t, api.ErrLock)(d.Read(1, 1)) // for 2
	wantRefused(t, api.ErrDead)(d.Read(2, 0)) // for 1: a ring
	wantStates(t, d, api.TxnActive, api.TxnDead, api.TxnActive, api.TxnWaiting)
	// Nor does who is waited for, but waits for nobody.
	wantRefused(t, api.ErrLock)(d.Read(1, 2))
	wantStates(t, d, api.TxnWaiting, api.TxnDead, api.TxnActive, api.TxnWaiting)
	wantWaits(t, d, 4, 1)
	wantWaits(t, d, 1, 3)
}

// A ring goes through places in a queue, too, not only through locks.
func TestRingOfQueue(t *testing.T) {
	d := begun(t, 3, 10, 20)
	wantNumber(t, 10)(d.Read(1, 0))
	wantErrno(t, api.OK, d.Write(2, 1, 2))
	wantErrno(t, api.ErrLock, d.Write(3, 0, 3))
	wantRefused(t, api.ErrLock)(d.Read(2, 0)) // compatible with what 1 holds, but behind 3
	wantWaits(t, d, 2, 3)
	wantWaits(t, d, 3, 1)
	wantRefused(t, api.ErrLock)(d.Read(1, 1)) // 1 waits for 2, 2 for 3, 3 for 1
	wantStates(t, d, api.TxnWaiting, api.TxnActive, api.TxnDead)
	wantGot(t, d, 2, 10)
	wantWaits(t, d, 1, 2)
	wantEvents(t, d, 2, 3, api.EventDeath, 0, 0, 2, api.EventRead, 0, 10)
}

// Two requests to read do not wait for each other in a queue, so that there is no ring.
func TestNoRingOfReaders(t *testing.T) {
	d := begun(t, 3, 10, 20)
	wantErrno(t, api.OK, d.Write(3, 0, 1))
	wantErrno(t, api.OK, d.Write(1, 1, 2))
	wantRefused(t, api.ErrLock)(d.Read(2, 0))
	wantRefused(t, api.ErrLock)(d.Read(1, 0))
	wantWaits(t, d, 1, 3)
	wantRefused(t, api.ErrDead)(d.Read(3, 1)) // 3 for 1, 1 for 3
	wantStates(t, d, api.TxnActive, api.TxnActive, api.TxnDead)
	wantHolders(t, d, 0, false, 1, 2)
}

// An upgrade that comes ahead of others closes rings through them.
func TestRingOfUpgrade(t *testing.T) {
	d := begun(t, 3, 10, 20)
	wantNumber(t, 10)(d.Read(1, 0))
	wantNumber(t, 10)(d.Read(2, 0))
	wantErrno(t, api.OK, d.Write(3, 1, 1))
	wantErrno(t, api.ErrLock, d.Write(3, 0, 5))
	wantRefused(t, api.ErrLock)(d.Read(2, 1)) // 2 for 3, and 3 for 1 and 2: a ring
	wantStates(t, d, api.TxnActive, api.TxnActive, api.TxnDead)
	wantGot(t, d, 2, 20)
	wantErrno(t, api.ErrLock, d.Write(1, 0, 6)) // for 2 only
	wantWaits(t, d, 1, 2)
	wantErrno(t, api.ErrDead, d.Write(2, 0, 7))
	wantGot(t, d, 1, 0)
}

// One request closes several rings: the youngest of all dies, then of what is left,
// until the requests can be granted.
func TestSeveralRings(t *testing.T) {
	d := begun(t, 5, 0, 0, 0)
	wantErrno(t, api.OK, d.Write(1, 0, 7))
	for _, txn := range []int{2, 4, 5} {
		wantNumber(t, 0)(d.Read(txn, 1))
	}
	wantErrno(t, api.OK, d.Write(4, 2, 8))
	for _, txn := range []int{4, 2} {
		wantRefused(t, api.ErrLock)(d.Read(txn, 0))
	}
	wantErrno(t, api.ErrLock, d.Write(5, 0, 9))
	wantErrno(t, api.ErrLock, d.Write(3, 2, 9)) // for 4; on no ring
	before := len(d.Events())
	wantErrno(t, api.ErrLock, d.Write(1, 1, 3))
	wantStates(t, d, api.TxnActive, api.TxnDead, api.TxnActive, api.TxnDead, api.TxnDead)
	wantEvents(t, d, before, 5, api.EventDeath, 0, 0, 4, api.EventDeath, 0, 0, 3, api.EventWrite, 2, 9, 2, api.EventDeath, 0, 0, 1, api.EventWrite, 1, 3)
	wantGot(t, d, 1, 0)
}

// A death can end a ring, and leave who asked waiting for others.
func TestStillWaits(t *testing.T) {
	d := begun(t, 4, 0, 0)
	wantErrno(t, api.OK, d.Write(2, 1, 5))
	wantNumber(t, 0)(d.Read(1, 0))
	wantNumber(t, 0)(d.Read(4, 0))
	wantNumber(t, 0)(d.Read(3, 0))
	wantRefused(t, api.ErrLock)(d.Read(4, 1))
	wantErrno(t, api.ErrLock, d.Write(2, 0, 6))
	wantStates(t, d, api.TxnActive, api.TxnWaiting, api.TxnActive, api.TxnDead)
	wantWaits(t, d, 2, 1, 3)
	wantNotGot(t, d, 2, api.OK)
}

// Who asks is the youngest of several rings, and dies for all of them.
func TestAskerDies(t *testing.T) {
	d := begun(t, 3, 1, 2)
	wantErrno(t, api.OK, d.Write(3, 0, 50))
	wantNumber(t, 2)(d.Read(1, 1))
	wantNumber(t, 2)(d.Read(2, 1))
	wantRefused(t, api.ErrLock)(d.Read(1, 0))
	wantRefused(t, api.ErrLock)(d.Read(2, 0))
	wantErrno(t, api.ErrDead, d.Write(3, 1, 60))
	wantStates(t, d, api.TxnActive, api.TxnActive, api.TxnDead)
	wantGot(t, d, 1, 1)
	wantGot(t, d, 2, 1)
	wantNotGot(t, d, 3, api.OK)
	wantValues(t, d, 1, 2)
	wantEvents(t, d, 3, 3, api.EventDeath, 0, 0, 1, api.EventRead, 0, 1, 2, api.EventRead, 0, 1)
}

// Who is granted a lock by a death is not on the ring any more, and lives.
func TestLivesOn(t *testing.T) {
	d := begun(t, 4, 0, 0, 0)
	wantErrno(t, api.OK, d.Write(1, 0, 1))
	wantErrno(t, api.OK, d.Write(4, 1, 4))
	wantErrno(t, api.OK, d.Write(3, 2, 3))
	wantErrno(t, api.ErrLock, d.Write(3, 1, 30)) // for 4
	wantRefused(t, api.ErrLock)(d.Read(4, 0))    // for 1
	before := len(d.Events())
	wantRefused(t, api.ErrLock)(d.Read(1, 2)) // for 3, it for 4, it for 1: 4 dies, and 3 goes on
	wantStates(t, d, api.TxnWaiting, api.TxnActive, api.TxnActive, api.TxnDead)
	wantEvents(t, d, before, 4, api.EventDeath, 0, 0, 3, api.EventWrite, 1, 30)
	wantRefused(t, api.ErrDead)(d.Read(3, 0))
	wantGot(t, d, 1, 0)
	wantValues(t, d, 0, 0, 0)
}
