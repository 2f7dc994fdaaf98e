package desk_test

import (
	"testing"

	"kimberlite/api"
)

// P9.4: what there is to look at, and which error comes first.
func TestLook(t *testing.T) {
	d := begun(t, 3, 5, 6)
	wantErrno(t, api.OK, d.Write(1, 1, 7))
	wantRefused(t, api.ErrLock)(d.Read(2, 1))
	for _, n := range anyInts() {
		if n < 1 || n > 3 {
			wantRefused(t, api.ErrNone)(d.State(n))
			wantNotGot(t, d, n, api.ErrNone)
			wantNoList(t, api.ErrNone)(d.Waits(n))
		} else {
			wantNumber(t, []int{0, api.TxnActive, api.TxnWaiting, api.TxnActive}[n])(d.State(n))
			wantNotGot(t, d, n, api.OK)
			wantWaits(t, d, n, [][]int{{}, {}, {1}, {}}[n]...)
		}
		if n < 0 || n > 1 {
			wantNoList(t, api.ErrArg)(d.Queue(n))
			if l, x, e := d.Holders(n); len(l) > 0 || x || e != api.ErrArg {
				t.Fatalf("holders of %d: %v, %v, error %d", n, l, x, e)
			}
		} else {
			wantHolders(t, d, n, n == 1, [][]int{{}, {1}}[n]...)
			wantQueue(t, d, n, [][]int{{}, {2}}[n]...)
		}
	}
}

// P9.4: those who have ended wait for nobody, and hold nothing.
func TestLookBehind(t *testing.T) {
	d := begun(t, 4, 5)
	wantNumber(t, 5)(d.Read(3, 0))
	wantErrno(t, api.ErrLock, d.Write(2, 0, 1))
	wantErrno(t, api.ErrLock, d.Write(1, 0, 2))
	wantWaits(t, d, 1, 2, 3)
	wantErrno(t, api.OK, d.Abort(2))
	wantWaits(t, d, 2)
	wantWaits(t, d, 1, 3)
	wantErrno(t, api.OK, d.Commit(3))
	wantWaits(t, d, 3)
	wantWaits(t, d, 1)
	wantHolders(t, d, 0, true, 1)
	wantStates(t, d, api.TxnActive, api.TxnDead, api.TxnDone, api.TxnActive)
}

// P9.4: Values is without what was written by who has not ended, also by who waits.
func TestValues(t *testing.T) {
	d := begun(t, 2, 5, 6, 7)
	wantErrno(t, api.OK, d.Write(1, 0, 15))
	wantErrno(t, api.OK, d.Write(2, 1, 16))
	wantErrno(t, api.OK, d.Write(1, 2, 17))
	wantValues(t, d, 5, 6, 7)
	wantRefused(t, api.ErrLock)(d.Read(1, 1))
	wantValues(t, d, 5, 6, 7)
	wantErrno(t, api.OK, d.Commit(2))
	wantValues(t, d, 5, 16, 7)
	wantErrno(t, api.OK, d.Write(1, 1, 26))
	wantErrno(t, api.OK, d.Write(1, 1, 36))
	wantValues(t, d, 5, 16, 7)
	wantErrno(t, api.OK, d.Copy().Abort(1))
	wantValues(t, d, 5, 16, 7)
	wantErrno(t, api.OK, d.Commit(1))
	wantValues(t, d, 15, 36, 17)
}

// P9.4: each step that is done is an event, also one for which the lock was there; what
// is refused, or waits, is none; nor is to begin.
func TestEvents(t *testing.T) {
	d := begun(t, 3, 5, 6)
	wantEvents(t, d, 0)
	wantNumber(t, 6)(d.Read(1, 1))
	wantNumber(t, 6)(d.Read(1, 1))
	wantErrno(t, api.OK, d.Write(1, 1, -4))
	wantErrno(t, api.OK, d.Write(1, 1, -5))
	wantNumber(t, -5)(d.Read(1, 1))
	first := []int{1, api.EventRead, 1, 6, 1, api.EventRead, 1, 6, 1, api.EventWrite, 1, -4, 1, api.EventWrite, 1, -5, 1, api.EventRead, 1, -5}
	wantEvents(t, d, 0, first...)
	wantErrno(t, api.ErrLock, d.Write(2, 1, 8))
	wantErrno(t, api.ErrLock, d.Write(2, 0, 8))
	wantErrno(t, api.ErrArg, d.Write(1, 0, maxInt))
	wantRefused(t, api.ErrNone)(d.Read(4, 0))
	wantErrno(t, api.ErrLock, d.Commit(2))
	wantEvents(t, d, 0, first...)
	wantErrno(t, api.OK, d.Commit(1))
	wantErrno(t, api.OK, d.Abort(3))
	wantErrno(t, api.OK, d.Abort(2))
	wantErrno(t, api.ErrDead, d.Abort(2))
	wantErrno(t, api.ErrState, d.Abort(1))
	wantEvents(t, d, 5, 1, api.EventCommit, 0, 0, 2, api.EventWrite, 1, 8, 3, api.EventDeath, 0, 0, 2, api.EventDeath, 0, 0)
}

// P9.4: a copy goes its own way, with all that waits.
func TestCopy(t *testing.T) {
	d := begun(t, 4, 5, 6)
	wantNumber(t, 5)(d.Read(1, 0))
	wantNumber(t, 5)(d.Read(2, 0))
	wantErrno(t, api.OK, d.Write(3, 1, 9))
	wantErrno(t, api.ErrLock, d.Write(3, 0, 8))
	wantRefused(t, api.ErrLock)(d.Read(4, 0))
	c := d.Copy()
	wantErrno(t, api.OK, d.Commit(1))
	wantErrno(t, api.OK, d.Abort(2))
	wantErrno(t, api.OK, d.Commit(3))
	wantNumber(t, 5)(d.Begin())
	wantValues(t, d, 8, 9)
	wantGot(t, d, 4, 8)

	wantStates(t, c, api.TxnActive, api.TxnActive, api.TxnWaiting, api.TxnWaiting)
	wantRefused(t, api.ErrNone)(c.State(5))
	wantHolders(t, c, 0, false, 1, 2)
	wantHolders(t, c, 1, true, 3)
	wantQueue(t, c, 0, 3, 4)
	wantValues(t, c, 5, 6)
	wantEvents(t, c, 0, 1, api.EventRead, 0, 5, 2, api.EventRead, 0, 5, 3, api.EventWrite, 1, 9)
	wantErrno(t, api.OK, c.Abort(3))
	wantGot(t, c, 4, 5)
	wantHolders(t, c, 0, false, 1, 2, 4)
	wantValues(t, c, 5, 6)
	wantValues(t, d, 8, 9)
}
