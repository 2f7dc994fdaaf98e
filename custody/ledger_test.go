package custody_test

import (
	"slices"
	"testing"

	"kimberlite/api"
	"kimberlite/custody"
)

// deed is a grant as it was made, and whether it was revoked.
type deed struct {
	above, holder, vaults, rights, until, uses int
	revoked                                    bool
}

// ledger is a book as the tests see it, in the chapter's words: it keeps what was
// done, and counts anew whatever is asked of it.
type ledger struct {
	day     int
	deeds   []deed
	entries []api.Entry
}

func (g *ledger) copy() *ledger {
	return &ledger{g.day, slices.Clone(g.deeds), slices.Clone(g.entries)}
}

func (g *ledger) isGrant(no int) bool { return no >= 1 && no <= len(g.deeds) }

func (g *ledger) of(no int) deed { return g.deeds[no-1] }

// up is a grant and all above it, the root last.
func (g *ledger) up(no int) []int {
	if no == 0 {
		return nil
	}
	return append([]int{no}, g.up(g.of(no).above)...)
}

func (g *ledger) root(no int) int { return g.up(no)[len(g.up(no))-1] }

func (g *ledger) isRevoked(no int) bool {
	return slices.ContainsFunc(g.up(no), func(a int) bool { return g.of(a).revoked })
}

func (g *ledger) stands(no int) bool { return !g.isRevoked(no) && g.day <= g.of(no).until }

func (g *ledger) below(no int) []int {
	var l []int
	for other := range len(g.deeds) {
		if other+1 != no && slices.Contains(g.up(other+1), no) {
			l = append(l, other+1)
		}
	}
	return l
}

// left is the uses of a grant, less the entries that name it or one beneath it.
func (g *ledger) left(no int) int {
	uses := g.of(no).uses
	if uses == -1 {
		return -1
	}
	for _, e := range g.entries {
		if slices.Contains(g.up(e.First), no) || slices.Contains(g.up(e.Second), no) {
			uses--
		}
	}
	return uses
}

// isUsable reports whether a grant, and each above it, has a use left.
func (g *ledger) isUsable(no int) bool {
	return !slices.ContainsFunc(g.up(no), func(a int) bool { return g.left(a) == 0 })
}

func (g *ledger) get(no int) api.Grant {
	d := g.of(no)
	return api.Grant{No: no, Above: d.above, Root: g.root(no), Holder: d.holder, Vaults: d.vaults,
		Rights: d.rights, Until: d.until, Uses: g.left(no), Revoked: d.revoked}
}

func isDeed(d deed) bool {
	return isPerson(d.holder) && isVaults(d.vaults) && isRights(d.rights) && isDay(d.until) && isUses(d.uses)
}

func (g *ledger) add(d deed) (int, api.Errno) {
	if len(g.deeds) == 128 {
		return 0, api.ErrFull
	}
	g.deeds = append(g.deeds, d)
	return len(g.deeds), api.OK
}

func (g *ledger) grant(d deed) (int, api.Errno) {
	if !isDeed(d) {
		return 0, api.ErrArg
	}
	return g.add(d)
}

func (g *ledger) pass(by int, d deed) (int, api.Errno) {
	if !g.isGrant(d.above) {
		return 0, api.ErrNone
	}
	if !isDeed(d) || !isPerson(by) {
		return 0, api.ErrArg
	}
	a, left := g.of(d.above), g.left(d.above)
	within := left == -1 || d.uses != -1 && d.uses <= left
	if by != a.holder || !g.stands(d.above) || !has(a.rights, 1) || !isPart(d.vaults, a.vaults) ||
		!isPart(d.rights, a.rights) || d.until > a.until || !within {
		return 0, api.ErrRight
	}
	return g.add(d)
}

func (g *ledger) revoke(no, by int) (int, api.Errno) {
	if !g.isGrant(no) {
		return 0, api.ErrNone
	}
	if !isPerson(by) {
		return 0, api.ErrArg
	}
	if !slices.ContainsFunc(g.up(no), func(a int) bool { return g.of(a).holder == by }) {
		return 0, api.ErrRight
	}
	if g.isRevoked(no) {
		return 0, api.ErrState
	}
	fallen := 0
	for _, n := range append(g.below(no), no) {
		if g.stands(n) {
			fallen++
		}
	}
	g.deeds[no-1].revoked = true
	return fallen, api.OK
}

// key is the error of one of the two grants of open.
func (g *ledger) key(vault, no, by int) api.Errno {
	if !g.isGrant(no) {
		return api.ErrNone
	}
	d := g.of(no)
	if by != d.holder || !g.stands(no) || !has(d.rights, 0) || !has(d.vaults, vault) {
		return api.ErrRight
	}
	if !g.isUsable(no) {
		return api.ErrFull
	}
	return api.OK
}

func (g *ledger) open(vault, first, firstBy, second, secondBy int) api.Errno {
	if !isVault(vault) {
		return api.ErrArg
	}
	if e := g.key(vault, first, firstBy); e != api.OK {
		return e
	}
	if e := g.key(vault, second, secondBy); e != api.OK {
		return e
	}
	if firstBy == secondBy || g.root(first) == g.root(second) {
		return api.ErrKey
	}
	if len(g.entries) == 4096 {
		return api.ErrFull
	}
	g.entries = append(g.entries, api.Entry{Day: g.day, Vault: vault, First: first, Second: second})
	return api.OK
}

func (g *ledger) next(day int) api.Errno {
	if !isDay(day) {
		return api.ErrArg
	}
	if day < g.day {
		return api.ErrState
	}
	g.day = day
	return api.OK
}

// could is P6.6: vault by vault, and pair by pair.
func (g *ledger) could(persons int) int {
	set := 0
	for v := range 16 {
		keys := g.keys(v, persons)
		for _, one := range keys {
			for _, two := range keys {
				if g.root(one) != g.root(two) && g.opens(one, two, persons) && !has(set, v) {
					set += 1 << v
				}
			}
		}
	}
	return set
}

// keys are the grants of persons that stand, and open a vault.
func (g *ledger) keys(vault, persons int) []int {
	var l []int
	for no := 1; no <= len(g.deeds); no++ {
		if has(persons, g.of(no).holder) && g.key(vault, no, g.of(no).holder) == api.OK {
			l = append(l, no)
		}
	}
	return l
}

// opens reports whether two persons of a group can have one of two keys each.
func (g *ledger) opens(one, two, persons int) bool {
	if g.of(one).holder != g.of(two).holder {
		return true
	}
	another := false
	for p := range 16 {
		another = another || has(persons, p) && p != g.of(one).holder
	}
	return another && (has(g.of(one).rights, 1) || has(g.of(two).rights, 1))
}

// wantSame fails unless a book shows all that a ledger does. Of Could, it asks for
// these groups only.
func wantSame(t *testing.T, b *custody.Book, g *ledger, groups ...int) {
	t.Helper()
	if b.Day() != g.day {
		t.Fatalf("day %d; want %d", b.Day(), g.day)
	}
	if got := b.Entries(); !slices.Equal(got, g.entries) {
		t.Fatalf("entries %v; want %v", got, g.entries)
	}
	if got := count(b); got != len(g.deeds) {
		t.Fatalf("%d grants; want %d", got, len(g.deeds))
	}
	for no := 1; no <= len(g.deeds); no++ {
		wantGot(t, b, g.get(no))
		if got, e := b.Stands(no); got != g.stands(no) || e != api.OK {
			t.Fatalf("grant %d stands: %v, error %d; want %v", no, got, e, g.stands(no))
		}
		if got, e := b.Below(no); !slices.Equal(got, g.below(no)) || e != api.OK {
			t.Fatalf("below %d: %v, error %d; want %v", no, got, e, g.below(no))
		}
	}
	for _, persons := range groups {
		wantNo(t, g.could(persons))(b.Could(persons))
	}
}
