package custody_test

import (
	"testing"

	"kimberlite/api"
	"kimberlite/custody"
)

// walker takes a book and its ledger through the same calls.
type walker struct {
	t       *testing.T
	d       *dice
	b       *custody.Book
	g       *ledger
	persons int // take part, and so many vaults
	count   map[string]int
}

func newWalker(t *testing.T, d *dice, persons int) *walker {
	return &walker{t, d, custody.New(), &ledger{}, persons, map[string]int{}}
}

// note fails unless a call gave what the ledger says, and counts the call.
func (w *walker) note(call string, want int, wantE api.Errno, got int, e api.Errno) {
	w.t.Helper()
	w.count[call+" "+[]string{"OK", "Nil", "Arg", "Limit", "Range", "Form", "None", "Exists", "Full", "State", "Plan", "Proof", "Right", "Key"}[wantE]]++
	if got != want || e != wantE {
		w.t.Fatalf("%s: %d, error %d; want %d, error %d", call, got, e, want, wantE)
	}
}

// any is the number of a grant, more often of one that stands, and now and then of
// none.
func (w *walker) any() int {
	if len(w.g.deeds) == 0 || w.d.next(20) == 0 {
		return w.d.odd(w.d.some(0, len(w.g.deeds)+1))
	}
	no := 0
	for range 4 {
		no = 1 + w.d.next(len(w.g.deeds))
		if w.g.stands(no) {
			break
		}
	}
	return w.d.odd(no)
}

// holder is the holder of a grant, and now and then somebody else.
func (w *walker) holder(no int) int {
	if w.g.isGrant(no) && w.d.next(8) > 0 {
		return w.g.of(no).holder
	}
	return w.d.some(w.d.next(w.persons), w.d.next(w.persons), w.d.next(w.persons), -1, 16)
}

func (w *walker) vaults() int { return 1 + w.d.next(1<<w.persons-1) }

// vault is one to which two grants open, and now and then another one.
func (w *walker) vault(first, second int) int {
	v := 0
	for range 4 {
		v = w.d.next(w.persons)
		if w.g.key(v, first, w.g.of(first).holder) == api.OK && w.g.key(v, second, w.g.of(second).holder) == api.OK {
			break
		}
	}
	return w.d.odd(v)
}

func (w *walker) grant() {
	w.t.Helper()
	d := w.d
	x := deed{0, d.odd(d.next(w.persons)), d.odd(w.vaults()), d.odd(d.some(1, 2, 3, 3, 3)), d.odd(w.g.day + d.next(20)), d.odd(d.some(-1, -1, 1, 2, 3, 9)), false}
	want, wantE := w.g.grant(x)
	got, e := w.b.Grant(x.holder, x.vaults, x.rights, x.until, x.uses)
	w.note("Grant", want, wantE, got, e)
}

// pass passes something on, mostly what is within the grant above it.
func (w *walker) pass() {
	w.t.Helper()
	d := w.d
	x := deed{w.any(), d.odd(d.next(w.persons)), w.vaults(), d.some(1, 2, 3), w.g.day + d.next(9), d.some(-1, 1, 2, 3), false}
	if w.g.isGrant(x.above) {
		a := w.g.of(x.above)
		if part := x.vaults & a.vaults; part > 0 && d.next(12) > 0 {
			x.vaults = part
		}
		if d.next(6) > 0 {
			x.rights = a.rights
		}
		x.until = a.until + d.some(0, 0, 0, 0, -1, -2, 1)
		if d.next(2) == 0 {
			x.uses = w.g.left(x.above)
		}
	}
	x.vaults, x.rights, x.until, x.uses = d.odd(x.vaults), d.odd(x.rights), d.odd(x.until), d.odd(x.uses)
	by := w.holder(x.above)
	want, wantE := w.g.pass(by, x)
	got, e := w.b.Pass(x.above, by, x.holder, x.vaults, x.rights, x.until, x.uses)
	w.note("Pass", want, wantE, got, e)
}

func (w *walker) revoke() {
	w.t.Helper()
	no := w.any()
	by := w.holder(no)
	want, wantE := w.g.revoke(no, by)
	got, e := w.b.Revoke(no, by)
	w.note("Revoke", want, wantE, got, e)
}

func (w *walker) open() {
	w.t.Helper()
	first, second, vault := w.any(), w.any(), w.d.odd(w.d.next(w.persons))
	if w.g.isGrant(first) && w.g.isGrant(second) {
		vault = w.vault(first, second)
	}
	firstBy, secondBy := w.holder(first), w.holder(second)
	want := w.g.open(vault, first, firstBy, second, secondBy)
	w.note("Open", 0, want, 0, w.b.Open(vault, first, firstBy, second, secondBy))
}

func (w *walker) next() {
	w.t.Helper()
	day := w.d.odd(w.g.day + w.d.some(0, 0, 1, 1, -1))
	if day > 1000 && isDay(day) {
		day = w.g.day
	}
	want := w.g.next(day)
	w.note("Next", 0, want, 0, w.b.Next(day))
}

// step makes one call, or goes on with a copy.
func (w *walker) step() {
	w.t.Helper()
	switch n := w.d.next(40); {
	case n < 6:
		w.grant()
	case n < 17:
		w.pass()
	case n < 19:
		w.revoke()
	case n < 37:
		w.open()
	case n < 39:
		w.next()
	default:
		w.b, w.g = w.b.Copy(), w.g.copy()
	}
}

// P6.1 to P6.6: any calls in any order, all errors, and copies.
func TestWalks(t *testing.T) {
	count := map[string]int{}
	for round := range 250 {
		d := dice(round)
		w := newWalker(t, &d, 2+d.next(4))
		w.count = count
		for range 120 {
			w.step()
			wantSame(t, w.b, w.g, d.next(1<<w.persons), allVaults)
		}
	}
	for _, call := range []string{"Grant OK", "Grant Arg", "Pass OK", "Pass None", "Pass Arg", "Pass Right", "Revoke OK", "Revoke None",
		"Revoke Arg", "Revoke Right", "Revoke State", "Open OK", "Open Arg", "Open None", "Open Right", "Open Full", "Open Key",
		"Next OK", "Next Arg", "Next State"} {
		if count[call] < 50 {
			t.Errorf("%s came only %d times", call, count[call])
		}
	}
}

// P6.1 to P6.6: long ways, until the book is full, and beyond.
func TestLongWalks(t *testing.T) {
	for round := range 6 {
		d := dice(1000 + round)
		w := newWalker(t, &d, 3)
		for i := range 900 {
			w.step()
			if i%60 == 0 {
				wantSame(t, w.b, w.g, 3, 7, allVaults)
			}
		}
		wantSame(t, w.b, w.g, 1, 2, 3, 4, 5, 6, 7, 8, allVaults)
		if len(w.g.deeds) != maxGrants || w.count["Grant Full"] < 10 || w.count["Pass Full"] < 10 {
			t.Errorf("round %d: %d grants, %v", round, len(w.g.deeds), w.count)
		}
	}
}
