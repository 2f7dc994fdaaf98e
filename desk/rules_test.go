package desk_test

import (
	"runtime"
	"slices"
	"testing"

	"kimberlite/api"
	"kimberlite/desk"
)

// Rules 2 to 5 of DOC.md, P1 and P2: what holds for all functions of the package.

// Rule 3: a desk that is nil, or that no function returned, whatever is asked of it.
func TestNil(t *testing.T) {
	for _, d := range []*desk.Desk{nil, {}, new(desk.Desk)} {
		wantRefused(t, api.ErrNil)(d.Begin())
		for _, n := range anyInts() {
			wantRefused(t, api.ErrNil)(d.Read(n, 0))
			wantRefused(t, api.ErrNil)(d.Read(1, n))
			wantErrno(t, api.ErrNil, d.Write(n, n, n))
			wantErrno(t, api.ErrNil, d.Commit(n))
			wantErrno(t, api.ErrNil, d.Abort(n))
			wantRefused(t, api.ErrNil)(d.State(n))
			wantNotGot(t, d, n, api.ErrNil)
			wantNoList(t, api.ErrNil)(d.Waits(n))
			wantNoList(t, api.ErrNil)(d.Queue(n))
			if l, x, e := d.Holders(n); len(l) > 0 || x || e != api.ErrNil {
				t.Errorf("holders %v, %v, error %d", l, x, e)
			}
		}
		if d.Values() != nil || d.Events() != nil || d.Copy() != nil {
			t.Errorf("values %v, events %v, copy %v", d.Values(), d.Events(), d.Copy())
		}
	}
	if d := begun(t, 0, 4).Copy(); d == nil {
		t.Error("no copy of a new desk")
	}
}

// P1 and rule 5: all functions, with numbers of any size.
func TestAnyNumbers(t *testing.T) {
	for round := range 40 {
		d := dice(40000 + round)
		w := newWalker(t, &d, 1+d.next(4), 5)
		for range 400 {
			for range 3 {
				n, m, v := d.some(anyInts()...), d.some(anyInts()...), d.some(anyInts()...)
				w.g.write(n, m, v)
				w.desk.Write(n, m, v)
				w.g.read(n, m)
				w.desk.Read(n, m)
			}
			w.step()
		}
		wantSame(t, w.desk, w.g)
	}
}

// wipe overwrites a list, and what is behind its end.
func wipe[T any](l []T, with T) {
	l = l[:cap(l)]
	for i := range l {
		l[i] = with
	}
}

// Rule 4: lists that a desk was given or gave away are not its own.
func TestMemory(t *testing.T) {
	for round := range 40 {
		d := dice(50000 + round)
		w := newWalker(t, &d, 1+d.next(4), 8)
		for range 100 {
			w.step()
			for txn := range len(w.g.jobs) + 1 {
				l, _ := w.desk.Waits(txn)
				wipe(l, -77)
			}
			for item := range w.g.now {
				l, _, _ := w.desk.Holders(item)
				wipe(l, -77)
				l, _ = w.desk.Queue(item)
				wipe(l, -77)
			}
			wipe(w.desk.Values(), -77)
			wipe(w.desk.Events(), api.Event{Txn: -77})
			wantSame(t, w.desk, w.g)
		}
	}
	values := []int{1, 2, 3}
	d, _ := desk.New(values)
	wipe(values, -77)
	wantValues(t, d, 1, 2, 3)
}

// Rule 4: what was given away stays as it was.
func TestGivenAway(t *testing.T) {
	d := begun(t, 4, 1, 2)
	wantErrno(t, api.OK, d.Write(1, 0, 5))
	wantErrno(t, api.ErrLock, d.Write(2, 0, 6))
	wantRefused(t, api.ErrLock)(d.Read(3, 0))
	values, events := d.Values(), d.Events()
	holders, _, _ := d.Holders(0)
	queue, _ := d.Queue(0)
	waits, _ := d.Waits(3)
	wantErrno(t, api.OK, d.Commit(1))
	wantErrno(t, api.OK, d.Commit(2))
	wantErrno(t, api.ErrLock, d.Write(4, 0, 7))
	if !slices.Equal(values, []int{1, 2}) || len(events) != 1 || events[0] != (api.Event{Txn: 1, What: api.EventWrite, Value: 5}) ||
		!slices.Equal(holders, []int{1}) || !slices.Equal(queue, []int{2, 3}) || !slices.Equal(waits, []int{1, 2}) {
		t.Errorf("given away, and now %v, %v, %v, %v, %v", values, events, holders, queue, waits)
	}
}

// Rule 4: Play neither changes what it is given nor keeps it.
func TestPlayMemory(t *testing.T) {
	for round := range 200 {
		d := dice(60000 + round)
		values, scripts, turns := anyPlay(&d)
		wasValues, wasTurns := slices.Clone(values), slices.Clone(turns)
		var was [][]api.Op
		for _, l := range scripts {
			was = append(was, slices.Clone(l))
		}
		want, wantE := played(values, scripts, turns)
		got, e := desk.Play(values, scripts, turns)
		if !slices.Equal(values, wasValues) || !slices.Equal(turns, wasTurns) || !slices.EqualFunc(scripts, was, slices.Equal[[]api.Op]) {
			t.Fatalf("given %v, %v, %v; now %v, %v, %v", wasValues, was, wasTurns, values, scripts, turns)
		}
		again, _ := desk.Play(values, scripts, turns)
		wipe(again.Values, -77)
		wipe(again.Order, -77)
		wipe(values, -77)
		wipe(turns, -77)
		for i := range scripts {
			wipe(scripts[i], api.Op{What: -77})
		}
		if !sameOutcome(got, want) || e != wantE {
			t.Fatalf("%v, error %d; want %v, error %d", got, e, want, wantE)
		}
		// Nor do the lists of one result share memory.
		for i := range got.Reads {
			wipe(got.Reads[i], -77)
			want.Reads[i] = slices.Repeat([]int{-77}, len(want.Reads[i]))
			if !sameOutcome(got, want) {
				t.Fatalf("%v; want %v", got, want)
			}
		}
	}
}

// Rule 2: a call that is refused changes nothing, and uses up no number.
func TestErrorsChangeNothing(t *testing.T) {
	d := begun(t, 5, 1, 2)
	g := newLedger([]int{1, 2})
	for range 5 {
		g.begin()
	}
	wantErrno(t, g.write(1, 0, 5), d.Write(1, 0, 5))
	wantErrno(t, g.write(2, 0, 6), d.Write(2, 0, 6))
	wantErrno(t, g.commit(3), d.Commit(3))
	wantErrno(t, g.abort(4), d.Abort(4))
	for _, n := range anyInts() {
		for txn := range 7 {
			if txn != 1 && txn != 5 || n < 0 || n > 1 {
				d.Read(txn, n)
				d.Write(txn, n, n)
			}
			if !isValue(n) {
				d.Write(txn, 1, n)
			}
		}
		if n < 1 || n > 5 {
			d.Commit(n)
			d.Abort(n)
		}
		d.State(n)
		d.Got(n)
		d.Waits(n)
		d.Holders(n)
		d.Queue(n)
	}
	d.Commit(2)
	for _, txn := range []int{3, 4} {
		d.Commit(txn)
		d.Abort(txn)
	}
	wantSame(t, d, g)
	wantNumber(t, 6)(d.Begin())
}

// P2: the same calls have the same results, at any desk.
func TestSameAgain(t *testing.T) {
	var l [2][]api.Event
	for i := range l {
		d := dice(5)
		w := newWalker(t, &d, 3, 6)
		for range 500 {
			w.step()
		}
		l[i] = w.desk.Events()
	}
	if !slices.Equal(l[0], l[1]) {
		t.Errorf("first %v; then %v", l[0], l[1])
	}
}

// P2: what Play comes to does not depend on how many goroutines run at a time.
func TestPlayAgain(t *testing.T) {
	defer runtime.GOMAXPROCS(runtime.GOMAXPROCS(0))
	for round := range 60 {
		d := dice(70000 + round)
		values, scripts, turns := anyPlay(&d)
		want, wantE := played(values, scripts, turns)
		for again := range 12 {
			runtime.GOMAXPROCS(1 + again%4)
			wantPlayed(t, values, scripts, turns, want, wantE)
		}
	}
}

// Play leaves no goroutine behind, whether it ends well or not.
func TestPlayJoins(t *testing.T) {
	scripts := [][]api.Op{script(writes(1, 1), adds(0, 1)), script(reads(1)), nil, script(reads(1), writes(1, 2))}
	for _, top := range []int{0, maxValue} {
		before := runtime.NumGoroutine()
		for range 200 {
			desk.Play([]int{top, 0}, scripts, nil)
		}
		// One that has just said that it is done may still be counted for a moment.
		for i := 0; i < 1000 && runtime.NumGoroutine() > before; i++ {
			runtime.Gosched()
		}
		if left := runtime.NumGoroutine(); left > before {
			t.Errorf("%d goroutines are left of %d", left, before)
		}
	}
}

// P2: plays at the same time do not touch each other.
func TestPlaysAtOnce(t *testing.T) {
	for n := range 8 {
		t.Run(string(rune('a'+n)), func(t *testing.T) {
			t.Parallel()
			for round := range 100 {
				d := dice(80000 + round)
				values, scripts, turns := anyPlay(&d)
				want, wantE := played(values, scripts, turns)
				wantPlayed(t, values, scripts, turns, want, wantE)
			}
		})
	}
}
