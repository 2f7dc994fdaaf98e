package desk_test

import (
	"slices"
	"testing"

	"kimberlite/api"
	"kimberlite/desk"
)

// P9.1: the values of a desk.
func TestNew(t *testing.T) {
	for _, values := range [][]int{{0}, {maxValue}, {-maxValue}, {3, 1, 2}, {-maxValue, maxValue, -1}, make([]int, maxItems)} {
		d, e := desk.New(values)
		wantErrno(t, api.OK, e)
		wantValues(t, d, values...)
		wantNoList(t, api.ErrArg)(d.Queue(len(values)))
		if len(d.Events()) > 0 {
			t.Errorf("events %v", d.Events())
		}
	}
	long := make([]int, maxItems+1)
	longer := slices.Repeat([]int{maxInt}, 1000)
	for _, c := range []struct {
		values []int
		want   api.Errno
	}{
		{nil, api.ErrArg}, {[]int{}, api.ErrArg}, {[]int{maxValue + 1}, api.ErrArg}, {[]int{-maxValue - 1}, api.ErrArg}, {[]int{0, 0, maxInt}, api.ErrArg},
		{[]int{minInt, 0}, api.ErrArg}, {append(make([]int, maxItems-1), minInt), api.ErrArg}, {long, api.ErrLimit}, {longer, api.ErrLimit},
	} {
		if d, e := desk.New(c.values); d != nil || e != c.want {
			t.Errorf("New(%v) is %v, error %d; want error %d", c.values, d, e, c.want)
		}
	}
}

// P9.1: the numbers of transactions, and no more than there may be.
func TestBegin(t *testing.T) {
	d := begun(t, maxTxns, 0)
	wantRefused(t, api.ErrFull)(d.Begin())
	wantRefused(t, api.ErrNone)(d.State(maxTxns + 1))
	// Those who have ended count, too.
	wantErrno(t, api.OK, d.Commit(5))
	wantErrno(t, api.OK, d.Abort(256))
	wantRefused(t, api.ErrFull)(d.Begin())
	wantErrno(t, api.OK, d.Write(255, 0, 1))
	c := d.Copy()
	wantRefused(t, api.ErrFull)(c.Begin())
	wantErrno(t, api.OK, c.Commit(255))
	wantValues(t, c, 1)
}

// calls makes each call with a transaction and an item, and returns the errors.
func calls(t *testing.T, d *desk.Desk, txn, item, value int) (read, write, commit, abort api.Errno) {
	n, read := d.Copy().Read(txn, item)
	if read != api.OK && n != 0 {
		t.Fatalf("read %d, error %d", n, read)
	}
	return read, d.Copy().Write(txn, item, value), d.Copy().Commit(txn), d.Copy().Abort(txn)
}

// P9.1 and P9.2: which error comes first, in each state, with right and wrong items
// and values.
func TestRefused(t *testing.T) {
	d := begun(t, 5, 10, 20, 30)
	wantErrno(t, api.OK, d.Write(1, 0, 11)) // stays active
	wantRefused(t, api.ErrLock)(d.Read(2, 0))
	wantErrno(t, api.OK, d.Commit(3))
	wantErrno(t, api.OK, d.Abort(4))
	wantStates(t, d, api.TxnActive, api.TxnWaiting, api.TxnDone, api.TxnDead, api.TxnActive)
	for _, txn := range anyInts() {
		for _, item := range anyInts() {
			for _, value := range anyInts() {
				want := [4]api.Errno{api.ErrNone, api.ErrNone, api.ErrNone, api.ErrNone}
				readArg, writeArg := item < 0 || item > 2, item < 0 || item > 2 || !isValue(value)
				switch txn {
				case 1, 5:
					want = [4]api.Errno{api.OK, api.OK, api.OK, api.OK}
					if txn == 5 && item == 0 {
						want[0], want[1] = api.ErrLock, api.ErrLock
					}
					if readArg {
						want[0] = api.ErrArg
					}
					if writeArg {
						want[1] = api.ErrArg
					}
				case 2:
					want = [4]api.Errno{api.ErrLock, api.ErrLock, api.ErrLock, api.OK}
				case 3:
					want = [4]api.Errno{api.ErrState, api.ErrState, api.ErrState, api.ErrState}
				case 4:
					want = [4]api.Errno{api.ErrDead, api.ErrDead, api.ErrDead, api.ErrDead}
				}
				var got [4]api.Errno
				got[0], got[1], got[2], got[3] = calls(t, d, txn, item, value)
				if got != want {
					t.Fatalf("transaction %d, item %d, value %d: errors %v; want %v", txn, item, value, got, want)
				}
			}
		}
	}
}

// P9.2: what is read and written at once, by one transaction.
func TestReadWrite(t *testing.T) {
	d := begun(t, 1, 7, -9)
	wantNumber(t, 7)(d.Read(1, 0))
	wantNumber(t, 7)(d.Read(1, 0))
	wantErrno(t, api.OK, d.Write(1, 0, maxValue))
	wantNumber(t, maxValue)(d.Read(1, 0))
	wantErrno(t, api.OK, d.Write(1, 1, -maxValue))
	wantErrno(t, api.OK, d.Write(1, 1, 4))
	wantNumber(t, 4)(d.Read(1, 1))
	wantNotGot(t, d, 1, api.OK)
	wantHolders(t, d, 0, true, 1)
	wantHolders(t, d, 1, true, 1)
	wantValues(t, d, 7, -9)
	wantErrno(t, api.OK, d.Commit(1))
	wantValues(t, d, maxValue, 4)
	wantHolders(t, d, 0, false)
	// The next one finds what was committed.
	wantNumber(t, 2)(d.Begin())
	wantNumber(t, maxValue)(d.Read(2, 0))
	wantNumber(t, 4)(d.Read(2, 1))
}

// P9.3: what was written is undone, also what was written several times.
func TestAbort(t *testing.T) {
	d := begun(t, 2, 7, 8, 9)
	wantErrno(t, api.OK, d.Write(2, 2, 1))
	wantErrno(t, api.OK, d.Commit(2))
	for _, value := range []int{5, 6, 7, -3} {
		wantErrno(t, api.OK, d.Write(1, 0, value))
		wantErrno(t, api.OK, d.Write(1, 2, value))
	}
	wantNumber(t, 8)(d.Read(1, 1))
	wantErrno(t, api.OK, d.Abort(1))
	wantValues(t, d, 7, 8, 1)
	wantStates(t, d, api.TxnDead, api.TxnDone)
	wantNumber(t, 3)(d.Begin())
	for item, value := range []int{7, 8, 1} {
		wantHolders(t, d, item, false)
		wantNumber(t, value)(d.Read(3, item))
	}
}

// P9.3: who waits can be made dead; what they had goes to others, and so does their
// place in the queue.
func TestAbortWaiting(t *testing.T) {
	d := begun(t, 4, 1, 2)
	wantErrno(t, api.OK, d.Write(2, 1, 5))
	wantNumber(t, 1)(d.Read(1, 0))
	wantErrno(t, api.ErrLock, d.Write(2, 0, 6))
	wantRefused(t, api.ErrLock)(d.Read(3, 0)) // behind the request of 2
	wantRefused(t, api.ErrLock)(d.Read(4, 1)) // 2 has it
	wantWaits(t, d, 3, 2)
	wantErrno(t, api.OK, d.Abort(2))
	wantStates(t, d, api.TxnActive, api.TxnDead, api.TxnActive, api.TxnActive)
	wantGot(t, d, 3, 1)
	wantGot(t, d, 4, 2)
	wantHolders(t, d, 0, false, 1, 3)
	wantHolders(t, d, 1, false, 4)
	wantQueue(t, d, 0)
	wantErrno(t, api.ErrDead, d.Write(2, 0, 6))
}

// P9.2: a step that waited is done when its lock is granted, with the value that is
// there then.
func TestGranted(t *testing.T) {
	d := begun(t, 3, 1)
	wantErrno(t, api.OK, d.Write(1, 0, 2))
	wantRefused(t, api.ErrLock)(d.Read(2, 0))
	wantErrno(t, api.ErrLock, d.Write(3, 0, 4))
	wantStates(t, d, api.TxnActive, api.TxnWaiting, api.TxnWaiting)
	wantErrno(t, api.OK, d.Write(1, 0, 3))
	wantErrno(t, api.OK, d.Commit(1))
	wantStates(t, d, api.TxnDone, api.TxnActive, api.TxnWaiting)
	wantGot(t, d, 2, 3)
	wantValues(t, d, 3)
	wantErrno(t, api.OK, d.Commit(2))
	wantGot(t, d, 3, 0)
	wantValues(t, d, 3)
	wantNumber(t, 4)(d.Read(3, 0))
	wantErrno(t, api.OK, d.Commit(3))
	wantValues(t, d, 4)
}

// P9.2: Got is of the last step that was not refused.
func TestGot(t *testing.T) {
	d := begun(t, 3, 50, 60)
	wantErrno(t, api.OK, d.Write(1, 0, 51))
	wantNotGot(t, d, 2, api.OK)
	wantRefused(t, api.ErrLock)(d.Read(2, 0))
	wantNotGot(t, d, 2, api.OK) // it is not granted yet
	wantErrno(t, api.OK, d.Commit(1))
	for range 2 {
		wantGot(t, d, 2, 51)
	}
	wantNotGot(t, d, 1, api.OK)
	// What is refused plays no part.
	wantRefused(t, api.ErrArg)(d.Read(2, 2))
	wantRefused(t, api.ErrArg)(d.Read(2, -1))
	wantErrno(t, api.ErrArg, d.Write(2, 0, maxValue+1))
	wantGot(t, d, 2, 51)
	// A step that does not wait does, whether it reads or writes.
	c := d.Copy()
	wantNumber(t, 60)(d.Read(2, 1))
	wantNotGot(t, d, 2, api.OK)
	wantErrno(t, api.OK, c.Write(2, 1, 5))
	wantNotGot(t, c, 2, api.OK)
	// A write that waited has read nothing.
	wantErrno(t, api.ErrLock, d.Write(3, 1, 7))
	wantRefused(t, api.ErrLock)(d.Read(3, 0)) // refused, since it waits
	wantErrno(t, api.ErrLock, d.Write(3, 9, 9))
	wantNotGot(t, d, 3, api.OK)
	wantErrno(t, api.OK, d.Commit(2))
	wantNotGot(t, d, 2, api.OK)
	wantGot(t, d, 3, 0)
	wantErrno(t, api.OK, d.Abort(3))
	wantNotGot(t, d, 3, api.OK)
	wantNotGot(t, d, 4, api.ErrNone)
	wantNotGot(t, d, 0, api.ErrNone)
}

// P9.2: what was got by waiting, and then another step that waits.
func TestGotAgain(t *testing.T) {
	d := begun(t, 3, 5, 6)
	wantErrno(t, api.OK, d.Write(1, 0, 15))
	wantErrno(t, api.OK, d.Write(2, 1, 16))
	wantRefused(t, api.ErrLock)(d.Read(3, 0))
	wantErrno(t, api.OK, d.Commit(1))
	wantGot(t, d, 3, 15)
	wantRefused(t, api.ErrLock)(d.Read(3, 1))
	wantNotGot(t, d, 3, api.OK)
	wantErrno(t, api.OK, d.Abort(2))
	wantGot(t, d, 3, 6)
	wantErrno(t, api.OK, d.Write(3, 0, 99))
	wantNotGot(t, d, 3, api.OK)
}
