package house_test

import (
	"fmt"
	"maps"
	"slices"
	"strings"
	"testing"

	"kimberlite/api"
	"kimberlite/house"
	"kimberlite/proof"
)

// P10.13 to P10.17, on what walks do, by what a house replies alone.

// contents are the stones of each parcel, as stones tells them.
func contents(h *house.House) map[string][]int {
	all := map[string][]int{}
	for _, name := range strings.Fields(h.Exec("parcels")) {
		all[name] = numbers(strings.Fields(h.Exec("stones " + name))[1:])
	}
	return all
}

// P10.13: no stone is lost, and parting and joining change what they name only.
func TestNoStoneIsLost(t *testing.T) {
	for round := range 40 {
		d := dice(5000 + round)
		w := newWalker(t, &d)
		before := contents(w.h)
		for range 250 {
			w.step()
			after := contents(w.h)
			taken := slices.Sorted(slices.Values(slices.Concat(slices.Collect(maps.Values(after))...)))
			a := w.h.Audit()
			if len(slices.Compact(slices.Clone(taken))) != len(taken) || len(taken)+a.Loose != a.Stones || len(taken) > 0 && (taken[0] < 1 || taken[len(taken)-1] > a.Stones) {
				t.Fatalf("parcels %v, audit %v", after, a)
			}
			wantParted(t, w.h, before, after)
			before = after
		}
	}
}

// wantParted fails if the last command was one that parts or joins, and another parcel
// than those that it names is changed, or a stone of these is lost.
func wantParted(t *testing.T, h *house.House, before, after map[string][]int) {
	t.Helper()
	if len(h.Book()) == 0 {
		return
	}
	l := strings.Fields(h.Book()[len(h.Book())-1])
	if l[0] != "sieve" && l[0] != "class" && l[0] != "join" {
		return
	}
	all := func(m map[string][]int) []int {
		return slices.Sorted(slices.Values(slices.Concat(m[l[1]], m[l[2]])))
	}
	same := slices.Equal(all(before), all(after))
	for _, m := range []map[string][]int{before, after} {
		for name := range m {
			same = same && (name == l[1] || name == l[2] || slices.Equal(before[name], after[name]))
		}
	}
	if !same {
		t.Fatalf("%q: before %v, then %v", l, before, after)
	}
}

// P10.14: a house that is read from a book goes on as the one whose book it is.
func TestReadAgain(t *testing.T) {
	for round := range 60 {
		d := dice(6000 + round)
		w := newWalker(t, &d)
		for range 30 + d.next(300) {
			w.step()
		}
		again, n, e := house.Read(w.h.Book())
		if n != 0 || e != api.OK || !slices.Equal(again.Book(), w.h.Book()) || again.Audit() != w.h.Audit() || shown(again) != shown(w.h) {
			t.Fatalf("line %d, error %d of\n%s", n, e, strings.Join(w.h.Book(), "\n"))
		}
		// The walk goes on in the house that was read; the ledger is that of the first one.
		w.h = again
		for range 150 {
			w.step()
		}
		w.wantSame()
	}
}

// P10.15: audits are good, and all commands can be proven.
func TestGoodHouses(t *testing.T) {
	for round := range 40 {
		d := dice(7000 + round)
		w := newWalker(t, &d)
		for i := range 250 {
			w.step()
			a, sum := w.h.Audit(), 0
			for _, value := range balances(w.h) {
				sum += value
			}
			if !a.Good || a.Money != 0 || sum != 0 || a.Commands != len(w.h.Book()) || !strings.HasPrefix(w.h.Exec("audit"), "good ") {
				t.Fatalf("audit %v, accounts %v", a, balances(w.h))
			}
			if i%50 == 49 {
				wantAllProven(t, w.h)
			}
		}
	}
}

// wantAllProven fails unless prove proves every line of the book.
func wantAllProven(t *testing.T, h *house.House) {
	t.Helper()
	book := h.Book()
	for i, line := range book {
		l := strings.Fields(h.Exec(fmt.Sprint("prove ", i)))
		var steps []api.Step
		for _, w := range l[1:] {
			s := api.Step{Left: w[0] == 'L'}
			fmt.Sscan(w[1:], &s.Hash)
			steps = append(steps, s)
		}
		if in, _ := proof.Included([]byte(line), i, len(book), h.Audit().Root, steps); !in {
			t.Fatalf("%d of %d, %q: %q", i, len(book), line, l)
		}
	}
}

// P10.16: a house in which only the lines are carried out that are not refused and change
// it, and another one in which all kinds of others come between.
func TestWhatChangesNothing(t *testing.T) {
	for round := range 25 {
		d := dice(8000 + round)
		w := newWalker(t, &d)
		quiet := house.New()
		for range 250 {
			n := len(w.h.Book())
			w.step()
			if book := w.h.Book(); len(book) > n {
				line := book[n]
				what, before := quiet.Exec("if "+line), shown(quiet)
				for range 2 {
					if again := quiet.Exec("if if " + line); again != what {
						t.Fatalf("if %q: %q, then %q", line, what, again)
					}
				}
				if shown(quiet) != before {
					t.Fatalf("if %q changed something", line)
				}
				want(t, quiet, line, what)
			}
			if got := shown(w.h); got != shown(quiet) {
				t.Fatalf("all lines:\n%sthose that change it:\n%s", got, shown(quiet))
			}
		}
	}
}

// P10.16: if, of lines of all kinds, replies what the line does then.
func TestIfAgain(t *testing.T) {
	for round := range 40 {
		d := dice(9000 + round)
		w := newWalker(t, &d)
		for range 250 {
			old := w.h.Copy()
			line := some(&d, w.sorting, w.guarding, w.selling, w.moving, w.looking)()
			if d.next(10) == 0 {
				line = w.spoiled(line)
			}
			if len(line) > maxLine-3 || strings.TrimSpace(line) == "" {
				continue
			}
			what := w.h.Exec("if " + line)
			if got := w.say(line); got != what {
				t.Fatalf("%q: %q, what if: %q", line, got, what)
			}
			want(t, old, line, what)
		}
	}
}

// opening is who opened a vault that is open, by grants of which roots.
type opening struct{ first, firstBy, second, secondBy int }

// P10.17: by the book alone, nothing is stored or fetched but on a day on which two
// persons opened the vault, by grants of different roots.
func TestTwoKeys(t *testing.T) {
	moves := 0
	for round := range 60 {
		d := dice(10000 + round)
		w := newWalker(t, &d)
		for range 500 {
			switch line := some(&d, w.guarding, w.guarding, w.guarding, w.sorting, w.selling)(); d.next(60) {
			case 0:
				w.step()
			default:
				w.say(line)
			}
		}
		moves += wantTwoKeys(t, w.h.Book())
	}
	if moves < 100 {
		t.Errorf("only %d parcels were stored or fetched", moves)
	}
}

// wantTwoKeys goes through a book, and returns how often it stores or fetches something.
func wantTwoKeys(t *testing.T, book []string) int {
	t.Helper()
	roots, vaults := []int{0}, map[string]string{}
	open, day, moves := map[string]opening{}, "0", 0
	for i, line := range book {
		l := strings.Fields(line)
		vault := l[len(l)-1]
		switch l[0] {
		case "grant":
			roots = append(roots, len(roots))
		case "pass":
			roots = append(roots, roots[number(l[1])])
		case "day":
			if l[1] != day {
				day, open = l[1], map[string]opening{}
			}
		case "lock":
			delete(open, l[1])
		case "open":
			open[l[1]] = opening{roots[number(l[2])], number(l[3]), roots[number(l[4])], number(l[5])}
		case "fetch":
			vault = vaults[l[1]]
			fallthrough
		case "store":
			vaults[l[1]] = vault
			moves++
			if o, ok := open[vault]; !ok || o.first == o.second || o.firstBy == o.secondBy {
				t.Fatalf("%q is line %d of\n%s", line, i+1, strings.Join(book, "\n"))
			}
		}
	}
	return moves
}
