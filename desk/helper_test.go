package desk_test

import (
	"slices"
	"testing"

	"kimberlite/api"
	"kimberlite/desk"
)

const (
	maxInt   = int(^uint(0) >> 1)
	minInt   = -maxInt - 1
	maxValue = 1 << 40
	maxTxns  = 256
	maxItems = 16
)

// anyInts are numbers just at and beyond all limits, and far beyond them.
func anyInts() []int {
	l := []int{minInt, minInt + 1, -1 << 41, -maxValue - 1, -maxValue, -maxValue + 1, -1 << 32, -257, -16, -3, -2, -1, 0, 1, 2, 3, 4, 5}
	l = append(l, 6, 7, 11, 12, 13, 15, 16, 17, 255, 256, 257, 512, 513, 1<<32, 1<<32+1, maxValue-1, maxValue, maxValue+1, 1<<41)
	return append(l, maxInt-1, maxInt)
}

func isValue(n int) bool { return n >= -maxValue && n <= maxValue }

// begun is a desk with these values, at which so many transactions were begun.
func begun(t *testing.T, txns int, values ...int) *desk.Desk {
	t.Helper()
	d, e := desk.New(values)
	wantErrno(t, api.OK, e)
	for i := range txns {
		wantNumber(t, i+1)(d.Begin())
	}
	return d
}

// wantErrno fails unless a call gave this error.
func wantErrno(t *testing.T, want, got api.Errno) {
	t.Helper()
	if got != want {
		t.Fatalf("error %d; want %d", got, want)
	}
}

// wantNumber fails unless a call gave this number, without an error.
func wantNumber(t *testing.T, want int) func(int, api.Errno) {
	return func(got int, e api.Errno) {
		t.Helper()
		if got != want || e != api.OK {
			t.Fatalf("got %d, error %d; want %d", got, e, want)
		}
	}
}

// wantRefused fails unless a call gave this error, and 0.
func wantRefused(t *testing.T, want api.Errno) func(int, api.Errno) {
	return func(got int, e api.Errno) {
		t.Helper()
		if got != 0 || e != want {
			t.Fatalf("got %d, error %d; want error %d", got, e, want)
		}
	}
}

// wantList fails unless a call gave this list, without an error.
func wantList(t *testing.T, want ...int) func([]int, api.Errno) {
	return func(got []int, e api.Errno) {
		t.Helper()
		if !slices.Equal(got, want) || e != api.OK {
			t.Fatalf("got %v, error %d; want %v", got, e, want)
		}
	}
}

// wantNoList fails unless a call gave this error, and an empty list.
func wantNoList(t *testing.T, want api.Errno) func([]int, api.Errno) {
	return func(got []int, e api.Errno) {
		t.Helper()
		if len(got) > 0 || e != want {
			t.Fatalf("got %v, error %d; want error %d", got, e, want)
		}
	}
}

// wantHolders fails unless just these hold a lock on an item, of that kind.
func wantHolders(t *testing.T, d *desk.Desk, item int, exclusive bool, want ...int) {
	t.Helper()
	if got, x, e := d.Holders(item); !slices.Equal(got, want) || x != exclusive || e != api.OK {
		t.Fatalf("item %d is held by %v, exclusive %v, error %d; want %v, %v", item, got, x, e, want, exclusive)
	}
}

// wantQueue fails unless just these wait for an item, in this order.
func wantQueue(t *testing.T, d *desk.Desk, item int, want ...int) {
	t.Helper()
	wantList(t, want...)(d.Queue(item))
}

// wantWaits fails unless a transaction waits for just these.
func wantWaits(t *testing.T, d *desk.Desk, txn int, want ...int) {
	t.Helper()
	wantList(t, want...)(d.Waits(txn))
}

// wantGot fails unless Got gives this value.
func wantGot(t *testing.T, d *desk.Desk, txn, want int) {
	t.Helper()
	if got, ok, e := d.Got(txn); got != want || !ok || e != api.OK {
		t.Fatalf("%d got %d, %v, error %d; want %d", txn, got, ok, e, want)
	}
}

// wantNotGot fails unless Got tells, with this error or OK, that there is nothing.
func wantNotGot(t *testing.T, d *desk.Desk, txn int, want api.Errno) {
	t.Helper()
	if got, ok, e := d.Got(txn); got != 0 || ok || e != want {
		t.Fatalf("%d got %d, %v, error %d; want nothing, error %d", txn, got, ok, e, want)
	}
}

// wantStates fails unless the transactions, from 1 on, are in these states.
func wantStates(t *testing.T, d *desk.Desk, want ...int) {
	t.Helper()
	var got []int
	for i := range want {
		state, e := d.State(i + 1)
		wantErrno(t, api.OK, e)
		got = append(got, state)
	}
	if !slices.Equal(got, want) {
		t.Fatalf("states %v; want %v", got, want)
	}
}

func wantValues(t *testing.T, d *desk.Desk, want ...int) {
	t.Helper()
	if got := d.Values(); !slices.Equal(got, want) {
		t.Fatalf("values %v; want %v", got, want)
	}
}

// wantEvents fails unless these are the events that came after the first so many: a
// transaction, what it did, the item and the value, in turn.
func wantEvents(t *testing.T, d *desk.Desk, from int, numbers ...int) {
	t.Helper()
	var want []api.Event
	for i := 0; i+3 < len(numbers); i += 4 {
		want = append(want, api.Event{Txn: numbers[i], What: numbers[i+1], Item: numbers[i+2], Value: numbers[i+3]})
	}
	if got := d.Events(); len(got) < from || !slices.Equal(got[from:], want) {
		t.Fatalf("events %v; want, from %d on, %v", got, from, want)
	}
}

// dice gives numbers that are always the same ones.
type dice uint64

// next is a number from 0 to n - 1.
func (d *dice) next(n int) int {
	*d = *d*6364136223846793005 + 1442695040888963407
	return int(*d>>33) % n
}

// some is one of a list.
func (d *dice) some(l ...int) int { return l[d.next(len(l))] }

// odd is mostly usual, and now and then any number at all.
func (d *dice) odd(usual int) int {
	if d.next(60) > 0 {
		return usual
	}
	return d.some(anyInts()...)
}
