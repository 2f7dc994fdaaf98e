package custody

import (
	"slices"

	"kimberlite/api"
)

const (
	unbounded = -1 // as Uses

	everybody  = 1<<(api.MaxPerson+1) - 1
	everyVault = 1<<(api.MaxVault+1) - 1
	bothRights = api.RightOpen | api.RightPass
)

// find returns the grant of a number, as it is in the book.
func (b *Book) find(no int) *api.Grant {
	b.needMade()
	need(1 <= no && no <= len(b.grants), api.ErrNone)
	return &b.grants[no-1]
}

// add gives the next number to a grant, and returns it. A grant without one above it
// becomes a root.
func (b *Book) add(g api.Grant) int {
	need(len(b.grants) < api.MaxGrants, api.ErrFull)
	g.No = len(b.grants) + 1
	if g.Above == 0 {
		g.Root = g.No
	}
	b.grants = append(b.grants, g)
	return g.No
}

// key returns a grant by which a user can open a vault.
func (b *Book) key(vault, no, by int) *api.Grant {
	g := b.find(no)
	need(by == g.Holder && b.stands(g) && g.Rights&api.RightOpen != 0 && g.Vaults>>vault&1 == 1, api.ErrRight)
	need(!b.isSpent(g), api.ErrFull)
	return g
}

// use takes one use of a grant and of each above it.
func (b *Book) use(g *api.Grant) {
	for _, a := range b.line(g) {
		if a.Uses != unbounded {
			a.Uses--
		}
	}
}

// line returns a grant, as it is in the book, and those above it, up to its root.
func (b *Book) line(g *api.Grant) []*api.Grant {
	line := []*api.Grant{g}
	for g.Above != 0 {
		g = &b.grants[g.Above-1]
		line = append(line, g)
	}
	return line
}

// stands reports whether a grant stands on the current day.
func (b *Book) stands(g *api.Grant) bool {
	return b.day <= g.Until && !slices.ContainsFunc(b.line(g), isRevoked)
}

// standing returns how many grants stand on the current day.
func (b *Book) standing() int {
	count := 0
	for i := range b.grants {
		if b.stands(&b.grants[i]) {
			count++
		}
	}
	return count
}

// isSpent reports whether a grant, or one above it, has no use left.
func (b *Book) isSpent(g *api.Grant) bool {
	return slices.ContainsFunc(b.line(g), func(a *api.Grant) bool { return a.Uses == 0 })
}

func isRevoked(g *api.Grant) bool { return g.Revoked }

// isWithin reports whether a grant is no wider than one that is to be above it.
func isWithin(g, above api.Grant) bool {
	return g.Vaults&^above.Vaults == 0 && g.Rights&^above.Rights == 0 && g.Until <= above.Until &&
		(above.Uses == unbounded || g.Uses != unbounded && g.Uses <= above.Uses)
}

// isValid reports whether a new grant can be made with these numbers.
func isValid(g api.Grant) bool {
	return isPerson(g.Holder) && 1 <= g.Vaults && g.Vaults <= everyVault &&
		1 <= g.Rights && g.Rights <= bothRights && isDay(g.Until) && isUses(g.Uses)
}

func isPerson(person int) bool { return 0 <= person && person <= api.MaxPerson }

func isVault(vault int) bool { return 0 <= vault && vault <= api.MaxVault }

func isDay(day int) bool { return 0 <= day && day <= api.MaxDay }

func isUses(uses int) bool { return uses == unbounded || 1 <= uses && uses <= api.MaxUses }
