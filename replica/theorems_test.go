package replica_test

import (
	"slices"
	"testing"

	"kimberlite/api"
	"kimberlite/replica"
)

// wantLaws fails unless Merge is idempotent, commutative and associative for these
// states, where it succeeds; it returns whether it does.
func wantLaws(t *testing.T, a, b, c api.State) bool {
	t.Helper()
	if m, e := replica.Merge(a, a); !same(m, a) || e != api.OK {
		t.Fatalf("%v with itself: %v, error %d", a, m, e)
	}
	ab, abE := replica.Merge(a, b)
	ba, baE := replica.Merge(b, a)
	if !same(ab, ba) || abE != baE {
		t.Fatalf("%v with %v: %v, error %d; the other way round %v, error %d", a, b, ab, abE, ba, baE)
	}
	bc, bcE := replica.Merge(b, c)
	if abE != api.OK || bcE != api.OK {
		return false
	}
	first, firstE := replica.Merge(ab, c)
	last, lastE := replica.Merge(a, bc)
	if firstE != api.OK || lastE != api.OK {
		return false
	}
	if !same(first, last) {
		t.Fatalf("%v, %v and %v: %v; or %v", a, b, c, first, last)
	}
	return true
}

// P8.7: any three right states.
func TestMergeLaws(t *testing.T) {
	together := 0
	d := dice(870)
	for range 8000 {
		if wantLaws(t, someState(&d), someState(&d), someState(&d)) {
			together++
		}
	}
	if together < 1000 {
		t.Errorf("only %d times three merge", together)
	}
}

// P8.7: all right states in which two offices have put tags on, at most twice each, in
// all threes.
func TestMergeLawsOfTags(t *testing.T) {
	var all []api.State
	for what := range 3 * 3 * 16 {
		s := api.State{Seen: seen(what%3, what/3%3)}
		for i := range 4 {
			if what/9>>i%2 == 1 {
				s.Tags = append(s.Tags, tag(i, "a", i%2, 1+i/2))
			}
		}
		if isRight(s) {
			all = append(all, s)
		}
	}
	if len(all) != 49 {
		t.Fatalf("%d states", len(all))
	}
	for _, a := range all {
		for _, b := range all {
			for _, c := range all {
				if !wantLaws(t, a, b, c) {
					t.Fatalf("%v, %v and %v do not merge", a, b, c)
				}
			}
		}
	}
}

// P8.5 and P8.7: all right states of one stock and two offices with amounts up to 2, in
// all pairs.
func TestMergeAllStocks(t *testing.T) {
	var all []api.State
	for what := range 729 {
		s := api.State{Seen: seen()}
		for place := range 6 {
			amount := what % 3
			what /= 3
			if amount > 0 && place < 4 {
				s.Rights = append(s.Rights, right(0, place/2, place%2, amount))
			} else if amount > 0 {
				s.Used = append(s.Used, used(0, place-4, amount))
			}
		}
		if isRight(s) {
			all = append(all, s)
		}
	}
	apart := 0
	for i, a := range all {
		for j := range i + 1 {
			ab, e := replica.Merge(a, all[j])
			ba, f := replica.Merge(all[j], a)
			want := api.State{Seen: seen()}
			mergeStocks(&want, a, all[j])
			wantE := api.OK
			if !isRight(want) {
				want, wantE = api.State{}, api.ErrState
				apart++
			}
			if !same(ab, want) || !same(ba, want) || e != wantE || f != wantE {
				t.Fatalf("%v with %v: %v, error %d, and %v, error %d; want %v, error %d", a, all[j], ab, e, ba, f, want, wantE)
			}
		}
	}
	if len(all) < 200 || apart < 1000 {
		t.Errorf("%d states, %d times two are not right together", len(all), apart)
	}
}

// P8.8: whatever any replicas of different offices ever knew merges without an error,
// and is right; but for too many tags.
func TestReplicasMerge(t *testing.T) {
	walked(t, 200, 60, 120, func(w *walker) {
		for range 300 {
			a, b, c := w.past[w.d.next(len(w.past))].s, w.past[w.d.next(len(w.past))].s, w.past[w.d.next(len(w.past))].s
			if !replica.Right(a) || !isRight(a) {
				t.Fatalf("%v is not right", a)
			}
			if !wantLaws(t, a, b, c) {
				t.Fatalf("%v, %v and %v do not merge", a, b, c)
			}
			if _, e := replica.Covers(a, b); e != api.OK {
				t.Fatalf("%v and %v: error %d", a, b, e)
			}
		}
	})
}

// P8.8: many tags: ErrFull is the only error.
func TestReplicasFull(t *testing.T) {
	full, fit := 0, 0
	d := dice(880)
	l := []*replica.Replica{begin(t, 0), begin(t, 3), begin(t, 7)}
	for range 3000 {
		r := l[d.next(3)]
		if e := r.Put(d.next(64), d.text("a", "b", "c")); e != api.OK && e != api.ErrFull {
			t.Fatalf("Put: error %d", e)
		}
		if d.next(3) == 0 {
			r.Drop(d.next(64), d.text("a", "b", "c"))
		}
		if d.next(30) > 0 {
			continue
		}
		switch e := r.Sync(l[d.next(3)].State()); e {
		case api.OK:
			fit++
		case api.ErrFull:
			full++
		default:
			t.Fatalf("Sync: error %d", e)
		}
		if s := r.State(); !replica.Right(s) || !isRight(s) {
			t.Fatalf("%v is not right", s)
		}
	}
	if full < 10 || fit < 10 {
		t.Errorf("%d syncs were refused, %d were not", full, fit)
	}
}

// P8.9: all together took at most what all together made, and nothing free is below 0.
func TestNeverBelowZero(t *testing.T) {
	taken := 0
	for round := range 60 {
		d := dice(900 + round)
		w := newWalker(t, &d, 3)
		for range 150 {
			w.stocks(d.next(3))
			if d.next(3) == 0 {
				w.step()
			}
			var made, took [8]int
			for _, x := range w.w.deeds {
				if x.gave.From == x.gave.To {
					made[x.gave.Stock] += x.gave.Amount
				}
				took[x.took.Stock] += x.took.Amount
			}
			for stock := range 8 {
				if took[stock] > made[stock] {
					t.Fatalf("%d of stock %d were taken, %d made", took[stock], stock, made[stock])
				}
				for _, r := range w.r {
					if n, e := r.Free(stock); n < 0 || e != api.OK {
						t.Fatalf("%d of stock %d is free, error %d", n, stock, e)
					}
				}
				taken += took[stock]
			}
		}
	}
	if taken < 1000 {
		t.Errorf("only %d was taken", taken)
	}
}

// P8.10: when all have the states of all others, in any order, all are the same.
func TestInTheEndTheSame(t *testing.T) {
	differ := 0
	walked(t, 300, 150, 60, func(w *walker) {
		all := known{}
		for _, o := range w.all {
			for n := range o.k {
				all[n] = true
			}
		}
		want := w.w.state(all)
		var states []api.State
		for _, r := range w.r {
			states = append(states, r.State())
			if !same(r.State(), want) {
				differ++
			}
		}
		for i, r := range w.r {
			for j := range states {
				// Not in the same order, and some of them again.
				wantErrno(t, api.OK, r.Sync(states[(j*(1+i%2)+i)%len(states)]))
				wantErrno(t, api.OK, r.Sync(states[w.d.next(len(states))]))
			}
			for _, s := range states {
				wantErrno(t, api.OK, r.Sync(s))
			}
			wantState(t, r, want)
		}
	})
	if differ < 100 {
		t.Errorf("only %d replicas were not the same before", differ)
	}
}

// P8.11: a tag that nobody took off is in every state that covers the one in which it
// was put on.
func TestPutStays(t *testing.T) {
	stayed := 0
	walked(t, 400, 60, 80, func(w *walker) {
		off := map[api.Dot]bool{}
		for _, x := range w.w.deeds {
			for _, dot := range x.off {
				off[dot] = true
			}
		}
		for _, x := range w.w.deeds {
			if x.put.Name == "" || off[x.put.Dot] {
				continue
			}
			born := w.past[w.born[x.put.Dot]].s
			if !slices.Contains(born.Tags, x.put) {
				t.Fatalf("%v is not in %v", x.put, born)
			}
			for _, m := range w.past {
				yes, e := replica.Covers(m.s, born)
				wantErrno(t, api.OK, e)
				if yes && !slices.Contains(m.s.Tags, x.put) {
					t.Fatalf("%v is not in %v", x.put, m.s)
				}
				if yes {
					stayed++
				}
			}
		}
	})
	if stayed < 500 {
		t.Errorf("only %d tags stayed", stayed)
	}
}
