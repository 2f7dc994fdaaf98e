package replica_test

import (
	"maps"
	"slices"
	"strings"
	"testing"

	"kimberlite/api"
	"kimberlite/replica"
)

// moment is what one of the replicas knew once.
type moment struct {
	s api.State
	k known
}

// walker takes replicas of different offices, and what their offices know by their
// deeds, through the same calls.
type walker struct {
	t      *testing.T
	d      *dice
	w      *world
	all    []*office
	r      []*replica.Replica
	stones int
	names  []string
	past   []moment
	born   map[api.Dot]int // the moment after the tag was put on
	count  map[string]int
}

func newWalker(t *testing.T, d *dice, replicas int) *walker {
	t.Helper()
	w := &walker{t: t, d: d, w: &world{}, stones: 3, names: []string{"a", "b", "a0"}, born: map[api.Dot]int{}, count: map[string]int{}}
	for i := range replicas {
		no := i*3 + d.next(2)
		w.all = append(w.all, &office{w.w, no, known{}})
		w.r = append(w.r, begin(t, no))
	}
	return w
}

// note fails unless a call gave what the office says, and counts the call.
func (w *walker) note(call string, want int, wantE api.Errno, got int, e api.Errno) {
	w.t.Helper()
	names := map[api.Errno]string{api.OK: "OK", api.ErrArg: "Arg", api.ErrFull: "Full", api.ErrRange: "Range", api.ErrFunds: "Funds"}
	w.count[call+" "+names[wantE]]++
	if got != want || e != wantE {
		w.t.Fatalf("%s: %d, error %d; want %d, error %d", call, got, e, want, wantE)
	}
}

func (w *walker) stone() int { return w.d.odd(w.d.next(w.stones)) }

func (w *walker) name() string {
	if w.d.next(40) == 0 {
		return w.d.text(badNames()...)
	}
	return w.d.text(w.names...)
}

// amount is a small one, all that is free, one more, or any number at all.
func (w *walker) amount(i, stock int) int {
	free := 0
	if isStock(stock) {
		free = freeOf(w.all[i].state(), stock, w.all[i].no)
	}
	return w.d.odd(w.d.some(1+w.d.next(4), max(1, free), free+1))
}

func (w *walker) tags(i int) {
	w.t.Helper()
	stone, name := w.stone(), w.name()
	if w.d.next(3) > 0 {
		want := w.all[i].put(stone, name)
		w.note("Put", 0, want, 0, w.r[i].Put(stone, name))
		if want == api.OK {
			w.born[w.w.deeds[len(w.w.deeds)-1].put.Dot] = len(w.past)
		}
		return
	}
	want, wantE := w.all[i].drop(stone, name)
	got, e := w.r[i].Drop(stone, name)
	w.note("Drop", want, wantE, got, e)
}

func (w *walker) write(i int) {
	w.t.Helper()
	stone, text := w.stone(), w.d.text("", "x", "yy", "\xff", strings.Repeat("z", 32), strings.Repeat("é", 17))
	w.note("Write", 0, w.all[i].write(stone, text), 0, w.r[i].Write(stone, text))
}

func (w *walker) stocks(i int) {
	w.t.Helper()
	o, r, stock := w.all[i], w.r[i], w.d.odd(w.d.next(2))
	amount := w.amount(i, stock)
	switch w.d.next(4) {
	case 0:
		w.note("Make", 0, o.give(stock, o.no, amount), 0, r.Make(stock, amount))
	case 1:
		w.note("Take", 0, o.take(stock, amount), 0, r.Take(stock, amount))
	default:
		to := w.d.odd(w.all[w.d.next(len(w.all))].no)
		want := api.ErrArg
		if to != o.no {
			want = o.give(stock, to, amount)
		}
		w.note("Give", 0, want, 0, r.Give(stock, to, amount))
	}
}

// sync lets a replica learn what one of them knew, mostly not long ago.
func (w *walker) sync(i int) {
	w.t.Helper()
	if len(w.past) == 0 {
		return
	}
	n := w.d.next(len(w.past))
	if w.d.next(2) == 0 {
		n = len(w.past) - 1 - w.d.next(min(len(w.past), 6))
	}
	m := w.past[n]
	w.note("Sync", 0, w.all[i].learn(m.k), 0, w.r[i].Sync(m.s))
}

// renew goes on with a copy of a replica, or with one that loads its state.
func (w *walker) renew(i int) {
	w.t.Helper()
	old := w.r[i]
	if w.d.next(2) == 0 {
		w.r[i] = old.Copy()
	} else {
		w.r[i] = load(w.t, w.all[i].no, old.State())
	}
	old.Put(0, "gone")
	old.Write(0, "gone")
	old.Make(0, 1)
}

// step makes one call of one replica.
func (w *walker) step() {
	w.t.Helper()
	i := w.d.next(len(w.all))
	switch n := w.d.next(20); {
	case n < 6:
		w.tags(i)
	case n < 8:
		w.write(i)
	case n < 14:
		w.stocks(i)
	case n < 19:
		w.sync(i)
	default:
		w.renew(i)
	}
	w.look(i)
	w.past = append(w.past, moment{w.r[i].State(), maps.Clone(w.all[i].k)})
}

// look fails unless a replica tells all that its office knows.
func (w *walker) look(i int) {
	w.t.Helper()
	s, r := w.all[i].state(), w.r[i]
	wantState(w.t, r, s)
	if !replica.Right(s) || !isRight(s) {
		w.t.Fatalf("%v is not right", s)
	}
	for stone := range w.stones {
		wantNames(w.t, r, stone, namesOf(s, stone)...)
		n := noteOf(s, stone)
		if text, ok, e := r.Read(stone); text != n.Text || ok != (n.Time > 0) || e != api.OK {
			w.t.Fatalf("stone %d has the note %q, %v, error %d; want %v", stone, text, ok, e, n)
		}
	}
	for stock := range 3 {
		wantStock(w.t, r, stock, freeOf(s, stock, w.all[i].no), leftOf(s, stock))
	}
}

// walked calls f with replicas after walks of any calls.
func walked(t *testing.T, first, rounds, steps int, f func(w *walker)) {
	t.Helper()
	for round := range rounds {
		d := dice(first + round)
		w := newWalker(t, &d, 2+d.next(2))
		for range steps {
			w.step()
		}
		f(w)
	}
}

// P8.1 to P8.6: any calls in any order, all errors, and copies.
func TestWalks(t *testing.T) {
	count := map[string]int{}
	walked(t, 0, 150, 100, func(w *walker) {
		for call, n := range w.count {
			count[call] += n
		}
		for range 100 {
			a, b := w.past[w.d.next(len(w.past))], w.past[w.d.next(len(w.past))]
			all := &office{w.w, 0, maps.Clone(a.k)}
			wantErrno(t, api.OK, all.learn(b.k))
			wantMerged(t, a.s, b.s, all.state())
			wantCovers(t, a.s, b.s, same(a.s, all.state()))
		}
	})
	for _, call := range []string{"Put OK", "Put Arg", "Drop OK", "Drop Arg", "Write OK", "Write Arg", "Make OK", "Make Arg",
		"Give OK", "Give Arg", "Give Funds", "Take OK", "Take Arg", "Take Funds", "Sync OK"} {
		if count[call] < 20 {
			t.Errorf("%s came only %d times", call, count[call])
		}
	}
}

// P8.2 and P8.5: many tags, so that replicas are full.
func TestFullWalks(t *testing.T) {
	count := map[string]int{}
	for round := range 6 {
		d := dice(100 + round)
		w := newWalker(t, &d, 3)
		w.stones, w.names = 64, []string{"a", "b", "c", "d"}
		for range 90 {
			for i := range w.all {
				w.tags(i)
				w.tags(i)
			}
			w.step()
		}
		w.look(0)
		for range 60 {
			w.tags(0)
			w.step()
		}
		for call, n := range w.count {
			count[call] += n
		}
	}
	if count["Put Full"] < 50 || count["Sync Full"] < 20 {
		t.Errorf("calls came %v times", count)
	}
}

// P2: the same calls have the same results, in any replica.
func TestSameAgain(t *testing.T) {
	var l [2][]moment
	for i := range l {
		walked(t, 7, 3, 200, func(w *walker) { l[i] = append(l[i], w.past...) })
	}
	if !slices.EqualFunc(l[0], l[1], func(a, b moment) bool { return same(a.s, b.s) }) {
		t.Error("the same calls came to other states")
	}
}
