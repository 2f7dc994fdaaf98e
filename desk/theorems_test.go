package desk_test

import (
	"slices"
	"testing"

	"kimberlite/api"
	"kimberlite/desk"
)

// ran is what a walk left: the values at the beginning, and the desk.
type ran struct {
	values []int
	desk   *desk.Desk
}

// walked makes walks of any calls, and calls f behind each call, and end at the end.
func walked(t *testing.T, rounds, steps int, f func(w *walker, before *desk.Desk), end func(r ran)) {
	t.Helper()
	for round := range rounds {
		d := dice(20000 + round)
		w := newWalker(t, &d, 1+d.next(4), 2+d.next(7))
		r := ran{values: w.desk.Values()}
		for range steps {
			before := w.desk.Copy()
			w.step()
			f(w, before)
		}
		r.desk = w.desk
		end(r)
	}
}

// underWay are, ascending, the transactions that are active or waiting, as a desk tells.
func underWay(d *desk.Desk) []int {
	var l []int
	for txn := 1; ; txn++ {
		state, e := d.State(txn)
		if e != api.OK {
			return l
		}
		if state == api.TxnActive || state == api.TxnWaiting {
			l = append(l, txn)
		}
	}
}

// committed are those that were committed, in order.
func committed(d *desk.Desk) []int {
	var l []int
	for _, e := range d.Events() {
		if e.What == api.EventCommit {
			l = append(l, e.Txn)
		}
	}
	return l
}

// P9.6: what was committed, done one by one at a new desk, reads and leaves the same.
func TestOneByOne(t *testing.T) {
	steps := 0
	walked(t, 200, 200, func(*walker, *desk.Desk) {}, func(r ran) {
		d := begun(t, 0, r.values...)
		for i, txn := range committed(r.desk) {
			wantNumber(t, i+1)(d.Begin())
			for _, e := range r.desk.Events() {
				if e.Txn != txn {
					continue
				}
				switch e.What {
				case api.EventRead:
					steps++
					wantNumber(t, e.Value)(d.Read(i+1, e.Item))
				case api.EventWrite:
					steps++
					wantErrno(t, api.OK, d.Write(i+1, e.Item, e.Value))
				}
			}
			wantErrno(t, api.OK, d.Commit(i+1))
		}
		wantValues(t, d, r.desk.Values()...)
	})
	if steps < 3000 {
		t.Errorf("only %d steps were committed", steps)
	}
}

// onRing reports whether a transaction waits for itself through others.
func onRing(d *desk.Desk, txn int) bool {
	all, _ := d.Waits(txn)
	for i := 0; i < len(all); i++ {
		next, _ := d.Waits(all[i])
		for _, other := range next {
			if !slices.Contains(all, other) {
				all = append(all, other)
			}
		}
	}
	return slices.Contains(all, txn)
}

// P9.7: no ring behind any call; and the oldest of all dies only by Abort.
func TestNoRing(t *testing.T) {
	deaths := 0
	walked(t, 200, 200, func(w *walker, before *desk.Desk) {
		t.Helper()
		for _, txn := range underWay(w.desk) {
			if onRing(w.desk, txn) {
				t.Fatalf("%d is on a ring", txn)
			}
		}
		old, now := before.Events(), w.desk.Events()
		aborted := len(now) > len(old) && now[len(old)].What == api.EventDeath && w.last == "Abort"
		if l := underWay(before); len(l) > 0 && !aborted {
			if state, _ := w.desk.State(l[0]); state == api.TxnDead {
				t.Fatalf("%d is dead, the oldest of %v", l[0], l)
			}
			for _, e := range now[len(old):] {
				if e.What == api.EventDeath {
					deaths++
				}
			}
		}
		// Somebody can always go on: who waits waits in the end for one who does not.
		if l := underWay(w.desk); len(l) > 0 && !slices.ContainsFunc(l, func(txn int) bool { s, _ := w.desk.State(txn); return s == api.TxnActive }) {
			t.Fatalf("all of %v wait", l)
		}
	}, func(ran) {})
	if deaths < 500 {
		t.Errorf("only %d deaths", deaths)
	}
}

// P9.8: each write has a value of its own; none of the dead is ever in Values, and none
// was read by who committed.
func TestNothingOfTheDead(t *testing.T) {
	reads := 0
	for round := range 200 {
		d := dice(30000 + round)
		w := newWalker(t, &d, 1+d.next(3), 2+d.next(6))
		w.fresh = 1000
		first := w.desk.Values()
		for range 200 {
			w.step()
			may := slices.Clone(first)
			done := committed(w.desk)
			for _, e := range w.desk.Events() {
				if e.What == api.EventWrite && slices.Contains(done, e.Txn) {
					may = append(may, e.Value)
				}
			}
			for _, value := range w.desk.Values() {
				if !slices.Contains(may, value) {
					t.Fatalf("%d is in %v, but was not committed", value, w.desk.Values())
				}
			}
			for _, e := range w.desk.Events() {
				if e.What == api.EventRead && slices.Contains(done, e.Txn) {
					reads++
					if !slices.Contains(may, e.Value) {
						t.Fatalf("%v read what was not committed", e)
					}
				}
			}
		}
	}
	if reads < 3000 {
		t.Errorf("only %d reads", reads)
	}
}

// P9.10: one exclusive lock at most, and no other then; of those only who are under way.
func TestLocks(t *testing.T) {
	exclusives, several := 0, 0
	walked(t, 150, 200, func(w *walker, before *desk.Desk) {
		t.Helper()
		under := underWay(w.desk)
		for item := range w.desk.Values() {
			l, x, e := w.desk.Holders(item)
			wantErrno(t, api.OK, e)
			if x && len(l) != 1 || !slices.IsSorted(l) || len(slices.Compact(slices.Clone(l))) != len(l) {
				t.Fatalf("item %d is held by %v, exclusive: %v", item, l, x)
			}
			for _, txn := range l {
				if !slices.Contains(under, txn) {
					t.Fatalf("item %d is held by %d; under way are %v", item, txn, under)
				}
			}
			if x {
				exclusives++
			}
			if len(l) > 1 {
				several++
			}
		}
	}, func(ran) {})
	if exclusives < 2000 || several < 2000 {
		t.Errorf("%d exclusive locks, %d that were shared by several", exclusives, several)
	}
}

// alone is what scripts come to that are done one by one in this order.
func alone(values []int, scripts [][]api.Op, order []int) ([]int, [][]int) {
	values = slices.Clone(values)
	read := make([][]int, len(scripts))
	for _, c := range order {
		for _, op := range scripts[c] {
			if op.What != api.OpWrite {
				read[c] = append(read[c], values[op.Item])
			}
			switch op.What {
			case api.OpWrite:
				values[op.Item] = op.Value
			case api.OpAdd:
				values[op.Item] += op.Value
			}
		}
	}
	return values, read
}

// P9.6 and P9.9, of Play: every clerk commits once, and in that order, one by one, it
// comes to the same.
func TestPlayOneByOne(t *testing.T) {
	plays, sums, deaths := 0, 0, 0
	for round := range 2000 {
		d := dice(9000 + round)
		values, scripts, turns := anyPlay(&d)
		o, e := desk.Play(values, scripts, turns)
		if e != api.OK {
			continue
		}
		plays++
		deaths += o.Deaths
		once := slices.Sorted(slices.Values(o.Order))
		for c := range scripts {
			if len(once) != len(scripts) || once[c] != c {
				t.Fatalf("%d clerks committed in the order %v", len(scripts), o.Order)
			}
		}
		want, read := alone(values, scripts, o.Order)
		if !slices.Equal(o.Values, want) || !slices.EqualFunc(o.Reads, read, slices.Equal[[]int]) {
			t.Fatalf("%v: %v; want %v, %v", scripts, o, want, read)
		}
		grown, adds, onlyAdds := 0, 0, true
		for _, l := range scripts {
			for _, op := range l {
				adds += op.Value
				onlyAdds = onlyAdds && op.What == api.OpAdd
			}
		}
		for i := range values {
			grown += o.Values[i] - values[i]
		}
		if onlyAdds {
			sums++
			if grown != adds {
				t.Fatalf("%v: the sum grew by %d; want %d", scripts, grown, adds)
			}
		}
	}
	if plays < 1000 || sums < 200 || deaths < 1000 {
		t.Errorf("%d plays, %d of these of sums only, %d deaths", plays, sums, deaths)
	}
}
