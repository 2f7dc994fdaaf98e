package desk_test

import (
	"testing"

	"kimberlite/api"
	"kimberlite/desk"
)

// walker takes a desk and its ledger through the same calls.
type walker struct {
	t     *testing.T
	d     *dice
	desk  *desk.Desk
	g     *ledger
	most  int // may be under way
	count map[string]int
	last  string // call
	fresh int    // the next value to write, each another one; if 0, any are written
}

func newWalker(t *testing.T, d *dice, items, most int) *walker {
	t.Helper()
	var values []int
	for range items {
		values = append(values, d.odd(d.next(100)))
		if !isValue(values[len(values)-1]) {
			values[len(values)-1] = maxValue
		}
	}
	return &walker{t: t, d: d, desk: begun(t, 0, values...), g: newLedger(values), most: most, count: map[string]int{}}
}

// note fails unless a call gave what the ledger says, and counts the call.
func (w *walker) note(call string, want int, wantE api.Errno, got int, e api.Errno) {
	w.t.Helper()
	name := map[api.Errno]string{api.OK: "OK", api.ErrNone: "None", api.ErrArg: "Arg", api.ErrFull: "Full", api.ErrState: "State", api.ErrLock: "Lock", api.ErrDead: "Dead"}
	w.count[call+" "+name[wantE]]++
	w.last = call
	if got != want || e != wantE {
		w.t.Fatalf("%s: %d, error %d; want %d, error %d", call, got, e, want, wantE)
	}
}

// under are the transactions that are active or waiting.
func (w *walker) under() []int {
	var l []int
	for txn := 1; txn <= len(w.g.jobs); txn++ {
		if s := w.g.of(txn).state; s == api.TxnActive || s == api.TxnWaiting {
			l = append(l, txn)
		}
	}
	return l
}

// any is a transaction, mostly an active one, now and then one that has ended or that
// there is not.
func (w *walker) any() int {
	if w.d.next(15) == 0 {
		return w.d.odd(w.d.next(len(w.g.jobs) + 2))
	}
	l := w.under()
	if len(l) == 0 {
		return w.d.next(len(w.g.jobs) + 2)
	}
	txn := 0
	for range 3 {
		txn = w.d.some(l...)
		if w.g.of(txn).state == api.TxnActive {
			break
		}
	}
	return txn
}

func (w *walker) item() int { return w.d.odd(w.d.next(len(w.g.now))) }

func (w *walker) begin() {
	w.t.Helper()
	want, wantE := w.g.begin()
	got, e := w.desk.Begin()
	w.note("Begin", want, wantE, got, e)
}

func (w *walker) read() {
	w.t.Helper()
	txn, item := w.any(), w.item()
	want, wantE := w.g.read(txn, item)
	got, e := w.desk.Read(txn, item)
	w.note("Read", want, wantE, got, e)
}

func (w *walker) write() {
	w.t.Helper()
	txn, item, value := w.any(), w.item(), w.d.odd(w.d.next(100))
	if w.fresh > 0 {
		value = w.fresh
		w.fresh++
	}
	wantE := w.g.write(txn, item, value)
	w.note("Write", 0, wantE, 0, w.desk.Write(txn, item, value))
}

func (w *walker) commit() {
	w.t.Helper()
	txn := w.any()
	wantE := w.g.commit(txn)
	w.note("Commit", 0, wantE, 0, w.desk.Commit(txn))
}

func (w *walker) abort() {
	w.t.Helper()
	txn := w.any()
	wantE := w.g.abort(txn)
	w.note("Abort", 0, wantE, 0, w.desk.Abort(txn))
}

// step makes one call, or goes on with a copy.
func (w *walker) step() {
	w.t.Helper()
	switch n := w.d.next(60); {
	case len(w.under()) == 0 || n < 12 && len(w.under()) < w.most:
		w.begin()
	case n < 35:
		w.read()
	case n < 53:
		w.write()
	case n < 57:
		w.commit()
	case n < 59:
		w.abort()
	default:
		w.desk, w.g = w.desk.Copy(), w.g.copy()
	}
}

// P9.1 to P9.4: any calls in any order, all errors, and copies.
func TestWalks(t *testing.T) {
	count := map[string]int{}
	for round := range 400 {
		d := dice(round)
		w := newWalker(t, &d, 1+d.next(5), 2+d.next(7))
		w.count = count
		for range 150 {
			w.step()
			wantSame(t, w.desk, w.g)
		}
	}
	for _, call := range []string{"Begin OK", "Read OK", "Read None", "Read Dead", "Read State", "Read Lock", "Read Arg",
		"Write OK", "Write None", "Write Dead", "Write State", "Write Lock", "Write Arg",
		"Commit OK", "Commit None", "Commit Dead", "Commit State", "Commit Lock", "Abort OK", "Abort None", "Abort Dead", "Abort State"} {
		if count[call] < 20 {
			t.Errorf("%s came only %d times", call, count[call])
		}
	}
}

// P9.1 to P9.4: long ways, until no transaction can be begun any more.
func TestLongWalks(t *testing.T) {
	for round := range 5 {
		d := dice(1000 + round)
		w := newWalker(t, &d, d.some(2, 16), d.some(6, 40))
		for i := 0; w.count["Begin Full"] < 20; i++ {
			w.step()
			if i%50 == 0 {
				wantSame(t, w.desk, w.g)
			}
		}
		wantSame(t, w.desk, w.g)
		if len(w.g.jobs) != maxTxns {
			t.Errorf("round %d: %d transactions", round, len(w.g.jobs))
		}
	}
}
