package custody_test

import (
	"slices"
	"testing"

	"kimberlite/api"
	"kimberlite/custody"
)

// walked calls f with books after walks of any calls.
func walked(t *testing.T, rounds, steps int, f func(w *walker, b *custody.Book, d *dice)) {
	t.Helper()
	for round := range rounds {
		d := dice(5000 + round)
		w := newWalker(t, &d, 2+d.next(3))
		for range steps {
			w.step()
		}
		f(w, w.b, &d)
	}
}

// lineOf is a grant and all above it, by what Get tells.
func lineOf(b *custody.Book, no int) []api.Grant {
	var l []api.Grant
	for no != 0 {
		g, _ := b.Get(no)
		l = append(l, g)
		no = g.Above
	}
	return l
}

// P6.7: never wider than the one above, whether it stands or not.
func TestNeverWider(t *testing.T) {
	beneath := 0
	walked(t, 150, 90, func(w *walker, b *custody.Book, d *dice) {
		for _, g := range grants(b) {
			if g.Above == 0 {
				continue
			}
			beneath++
			a, _ := b.Get(g.Above)
			if !isPart(g.Vaults, a.Vaults) || !isPart(g.Rights, a.Rights) || g.Until > a.Until || g.Root != a.Root {
				t.Fatalf("%v is wider than %v", g, a)
			}
		}
		for day := b.Day(); day < b.Day()+15; day++ {
			c := b.Copy()
			wantErrno(t, api.OK, c.Next(day))
			for _, g := range grants(c) {
				if yes, _ := c.Stands(g.No); yes {
					for _, a := range lineOf(c, g.No) {
						if stands, _ := c.Stands(a.No); !stands || !isPart(g.Vaults, a.Vaults) || day > a.Until {
							t.Fatalf("on day %d, %v stands beneath %v", day, g, a)
						}
					}
				}
			}
		}
	})
	if beneath < 500 {
		t.Errorf("only %d grants beneath others", beneath)
	}
}

// P6.8: when an entry is made, its grants are of two roots and two persons, and
// stand, with the right and the vault.
func TestNeverAlone(t *testing.T) {
	entries := 0
	for round := range 150 {
		d := dice(6000 + round)
		w := newWalker(t, &d, 2+d.next(3))
		for range 120 {
			before := w.b.Copy()
			w.step()
			l := w.b.Entries()
			old := before.Entries()
			if !slices.Equal(l[:len(old)], old) {
				t.Fatalf("entries %v, and before %v", l, old)
			}
			for _, e := range l[len(old):] {
				entries++
				one, _ := before.Get(e.First)
				two, _ := before.Get(e.Second)
				if one.Root == two.Root || one.Holder == two.Holder || e.Day != before.Day() {
					t.Fatalf("%v by %v and %v", e, one, two)
				}
				for _, g := range []api.Grant{one, two} {
					if yes, _ := before.Stands(g.No); !yes || !has(g.Rights, 0) || !has(g.Vaults, e.Vault) {
						t.Fatalf("%v by %v", e, g)
					}
				}
			}
		}
	}
	if entries < 500 {
		t.Errorf("only %d entries", entries)
	}
}

// tryOpens opens whatever any two grants of persons of a group open, each in a copy,
// and returns the vaults and the numbers of the grants that did.
func tryOpens(b *custody.Book, group, vaults int) (opened int, by []int) {
	l, c := grants(b), b.Copy()
	for _, one := range l {
		for _, two := range l {
			if !has(group, one.Holder) || !has(group, two.Holder) {
				continue
			}
			for v := range vaults {
				if c.Open(v, one.No, one.Holder, two.No, two.Holder) == api.OK {
					opened |= 1 << v
					by = append(by, one.No, two.No)
					c = b.Copy()
				}
			}
		}
	}
	return opened, by
}

// P6.9: what is taken back, and all beneath it, is gone for good; nothing else is.
func TestTakenBack(t *testing.T) {
	walked(t, 100, 50, func(w *walker, b *custody.Book, d *dice) {
		for _, g := range grants(b) {
			c := b.Copy()
			fallen, e := c.Revoke(g.No, g.Holder)
			if e != api.OK {
				continue
			}
			gone, _ := b.Below(g.No)
			gone = append(gone, g.No)
			for day := b.Day(); day < b.Day()+14; day++ {
				before, after := b.Copy(), c.Copy()
				wantErrno(t, api.OK, before.Next(day))
				wantErrno(t, api.OK, after.Next(day))
				stood := 0
				for i := range count(b) {
					was, _ := before.Stands(i + 1)
					is, _ := after.Stands(i + 1)
					isGone := slices.Contains(gone, i+1)
					if is != (was && !isGone) {
						t.Fatalf("after Revoke of %d, grant %d stands on day %d: %v; before it: %v", g.No, i+1, day, is, was)
					}
					if was && isGone {
						stood++
					}
				}
				if day == b.Day() && stood != fallen {
					t.Fatalf("Revoke of %d: %d; want %d", g.No, fallen, stood)
				}
			}
			if d.next(6) == 0 {
				_, by := tryOpens(c, allVaults, w.persons)
				if slices.ContainsFunc(by, func(no int) bool { return slices.Contains(gone, no) }) {
					t.Fatalf("after Revoke of %d, the grants %v open", g.No, by)
				}
			}
		}
	})
}

// P6.10: the uses of a grant with a bound are those that it was made with, less the
// entries that name it or one beneath it.
func TestUsesAreCounted(t *testing.T) {
	bounded, spent := 0, 0
	walked(t, 200, 120, func(w *walker, b *custody.Book, d *dice) {
		used := map[int]int{}
		for _, e := range b.Entries() {
			for _, no := range []int{e.First, e.Second} {
				for _, g := range lineOf(b, no) {
					used[g.No]++
				}
			}
		}
		for _, g := range grants(b) {
			// The ledger keeps the uses that the call gave.
			made := w.g.of(g.No).uses
			if made == -1 {
				if g.Uses != -1 {
					t.Fatalf("%v has a bound", g)
				}
				continue
			}
			bounded++
			if used[g.No] > made || g.Uses != made-used[g.No] {
				t.Fatalf("%v was made with the uses %d, and %d entries used it", g, made, used[g.No])
			}
			if g.Uses == 0 {
				spent++
			}
		}
	})
	if bounded < 500 || spent < 100 {
		t.Errorf("only %d grants with bounds, %d without a use left", bounded, spent)
	}
}

// passAll lets everybody of a group pass on all they have to all others of it.
func passAll(b *custody.Book, group int) {
	for _, g := range grants(b) {
		for p := range 16 {
			if has(group, g.Holder) && has(group, p) && p != g.Holder {
				b.Pass(g.No, g.Holder, p, g.Vaults, g.Rights, g.Until, g.Uses)
			}
		}
	}
}

// P6.11: what a group could do it can, by passing on all it has; and no more.
func TestCouldIsWhatTheyCan(t *testing.T) {
	some, more := 0, 0
	walked(t, 120, 45, func(w *walker, b *custody.Book, d *dice) {
		for group := range 1 << w.persons {
			c := b.Copy()
			passAll(c, group)
			if count(c) == maxGrants {
				continue
			}
			could, e := b.Could(group)
			can, _ := tryOpens(c, group, 16)
			if could != can || e != api.OK {
				t.Fatalf("could of %d: %d, error %d; they open %d", group, could, e, can)
			}
			if could != 0 {
				some++
			}
			if now, _ := tryOpens(b, group, 16); now != can {
				more++
			}
		}
	})
	if some < 100 || more < 20 {
		t.Errorf("only %d groups could open something, %d of them after they pass", some, more)
	}
}

// P6.11: whatever a group does on a day, it opens no vault of which it could not.
func TestGroupOpensNoMore(t *testing.T) {
	opened := 0
	walked(t, 200, 40, func(w *walker, b *custody.Book, d *dice) {
		group := 1 + d.next(1<<w.persons-1)
		could, _ := b.Could(group)
		if count(b) == 0 {
			return
		}
		for range 200 {
			one := grants(b)[d.next(count(b))]
			two := grants(b)[d.next(count(b))]
			if !has(group, one.Holder) || !has(group, two.Holder) {
				continue
			}
			if d.next(3) == 0 {
				b.Pass(one.No, one.Holder, d.next(w.persons), one.Vaults&two.Vaults, d.some(one.Rights, 1, 2), one.Until, d.some(one.Uses, 1))
				continue
			}
			v := d.next(w.persons)
			if b.Open(v, one.No, one.Holder, two.No, two.Holder) == api.OK {
				opened++
				if !has(could, v) {
					t.Fatalf("vault %d opens to %d, which could open %d", v, group, could)
				}
			}
			if now, _ := b.Could(group); !isPart(now, could) {
				t.Fatalf("could of %d: first %d, then %d", group, could, now)
			}
		}
	})
	if opened < 100 {
		t.Errorf("only %d opened", opened)
	}
}

// P6.11: a greater group can do no less; and a root of somebody else changes nothing.
func TestCouldOfGroups(t *testing.T) {
	walked(t, 150, 60, func(w *walker, b *custody.Book, d *dice) {
		for group := range 1 << w.persons {
			could, _ := b.Could(group)
			for p := range 16 {
				if has(group, p) {
					continue
				}
				if greater, _ := b.Could(group | 1<<p); !isPart(could, greater) {
					t.Fatalf("could of %d: %d; with %d: %d", group, could, p, greater)
				}
				c := b.Copy()
				c.Grant(p, allVaults, 3, maxDay, -1)
				c.Grant(p, allVaults, 3, maxDay, -1)
				wantNo(t, could)(c.Could(group))
			}
		}
	})
}
