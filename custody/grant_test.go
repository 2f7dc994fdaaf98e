package custody_test

import (
	"testing"

	"kimberlite/api"
	"kimberlite/custody"
)

// The chapter's examples.
func TestExamples(t *testing.T) {
	b := custody.New()
	wantNo(t, 1)(b.Grant(0, 1, 3, 9, 2))
	wantNo(t, 2)(b.Grant(1, 1, 1, 9, -1))
	wantNo(t, 0)(b.Could(1))
	wantNo(t, 1)(b.Could(3))
	wantErrno(t, api.OK, b.Open(0, 1, 0, 2, 1))
	wantNo(t, 3)(b.Pass(1, 0, 2, 1, 1, 5, 1))
	wantNo(t, 1)(b.Could(3))
	wantErrno(t, api.OK, b.Open(0, 3, 2, 2, 1))
	wantErrno(t, api.ErrFull, b.Open(0, 1, 0, 2, 1))
	wantNo(t, 0)(b.Could(3))
	wantEntries(t, b, 0, 0, 1, 2, 0, 0, 3, 2)
	wantUses(t, b, 1, 0, 2, -1, 3, 0)
}

// DOC.md's example: two grants of two roots open a vault, and no two of one root.
func TestTwoRoots(t *testing.T) {
	b := custody.New()
	wantNo(t, 1)(b.Grant(0, 1, 3, 9, -1))
	wantNo(t, 2)(b.Grant(1, 1, 3, 9, -1))
	wantNo(t, 3)(b.Pass(1, 0, 2, 1, 1, 9, -1))
	wantErrno(t, api.ErrKey, b.Open(0, 1, 0, 3, 2))
	wantErrno(t, api.ErrKey, b.Open(0, 3, 2, 1, 0))
	wantErrno(t, api.OK, b.Open(0, 1, 0, 2, 1))
	wantErrno(t, api.OK, b.Open(0, 2, 1, 3, 2))
	wantEntries(t, b, 0, 0, 1, 2, 0, 0, 2, 3)
}

// P6.1: a new book.
func TestNew(t *testing.T) {
	b := custody.New()
	wantSame(t, b, &ledger{}, 0, 1, allVaults)
	for _, no := range anyInts() {
		wantNothing(t, b, no, api.ErrNone)
	}
}

// P6.1: a root, and what Get tells of it.
func TestGrant(t *testing.T) {
	b := custody.New()
	wantNo(t, 1)(b.Grant(0, 1, 1, 0, 1))
	wantNo(t, 2)(b.Grant(15, allVaults, 3, maxDay, maxUses))
	wantNo(t, 3)(b.Grant(7, 40000, 2, 5, -1))
	wantNo(t, 4)(b.Grant(7, 40000, 2, 5, -1))
	wantGot(t, b, api.Grant{No: 1, Root: 1, Vaults: 1, Rights: 1, Uses: 1})
	wantGot(t, b, api.Grant{No: 2, Root: 2, Holder: 15, Vaults: allVaults, Rights: 3, Until: maxDay, Uses: maxUses})
	wantGot(t, b, api.Grant{No: 3, Root: 3, Holder: 7, Vaults: 40000, Rights: 2, Until: 5, Uses: -1})
	wantGot(t, b, api.Grant{No: 4, Root: 4, Holder: 7, Vaults: 40000, Rights: 2, Until: 5, Uses: -1})
	wantStand(t, b, 1, 2, 3, 4)
}

// P6.1: a grant can be made for a day that is past, and never stands.
func TestGrantOfThePast(t *testing.T) {
	b := custody.New()
	wantErrno(t, api.OK, b.Next(5))
	wantNo(t, 1)(b.Grant(0, 1, 3, 4, 2))
	wantNo(t, 2)(b.Grant(0, 1, 3, 5, 2))
	wantNo(t, 3)(b.Pass(2, 0, 0, 1, 3, 4, 2))
	wantStand(t, b, 2)
	wantRefused(t, api.ErrRight)(b.Pass(1, 0, 0, 1, 3, 4, 2))
}

// P6.1: every number of a root, at its limits and beyond them.
func TestGrantLimits(t *testing.T) {
	try := func(d deed) {
		t.Helper()
		b, g := custody.New(), &ledger{}
		want, wantE := g.grant(d)
		got, e := b.Grant(d.holder, d.vaults, d.rights, d.until, d.uses)
		if got != want || e != wantE {
			t.Fatalf("Grant %v: %d, error %d; want %d, error %d", d, got, e, want, wantE)
		}
		wantSame(t, b, g)
	}
	for _, n := range anyInts() {
		try(deed{0, n, 1, 1, 1, 1, false})
		try(deed{0, 1, n, 1, 1, 1, false})
		try(deed{0, 1, 1, n, 1, 1, false})
		try(deed{0, 1, 1, 1, n, 1, false})
		try(deed{0, 1, 1, 1, 1, n, false})
		try(deed{0, n, n, n, n, n, false})
	}
}

// P6.1: every number of a grant beneath another one, at its limits and beyond them.
func TestPassLimits(t *testing.T) {
	try := func(by int, d deed) {
		t.Helper()
		b, g := custody.New(), &ledger{}
		for _, uses := range []int{-1, maxUses} {
			wantNo(t, len(g.deeds)+1)(b.Grant(3, allVaults, both, maxDay, uses))
			g.grant(deed{0, 3, allVaults, both, maxDay, uses, false})
		}
		want, wantE := g.pass(by, d)
		got, e := b.Pass(d.above, by, d.holder, d.vaults, d.rights, d.until, d.uses)
		if got != want || e != wantE {
			t.Fatalf("Pass %v by %d: %d, error %d; want %d, error %d", d, by, got, e, want, wantE)
		}
		wantSame(t, b, g)
	}
	for _, n := range anyInts() {
		for above := 1; above <= 2; above++ {
			try(3, deed{above, n, 1, 1, 1, 1, false})
			try(3, deed{above, 1, n, 1, 1, 1, false})
			try(3, deed{above, 1, 1, n, 1, 1, false})
			try(3, deed{above, 1, 1, 1, n, 1, false})
			try(3, deed{above, 1, 1, 1, 1, n, false})
			try(n, deed{above, 1, 1, 1, 1, 1, false})
			try(n, deed{above, n, n, n, n, n, false})
		}
		try(3, deed{n, 1, 1, 1, 1, 1, false})
		try(n, deed{n, n, n, n, n, n, false})
	}
}

// passCase is a call of Pass, and what comes of it.
type passCase struct {
	by int
	d  deed
	e  api.Errno
}

// tryPasses makes each call in a copy of a book.
func tryPasses(t *testing.T, b *custody.Book, l []passCase) {
	t.Helper()
	for _, c := range l {
		want := 0
		if c.e == api.OK {
			want = count(b) + 1
		}
		got, e := b.Copy().Pass(c.d.above, c.by, c.d.holder, c.d.vaults, c.d.rights, c.d.until, c.d.uses)
		if got != want || e != c.e {
			t.Errorf("Pass %v by %d: %d, error %d; want %d, error %d", c.d, c.by, got, e, want, c.e)
		}
	}
}

// P6.1: what is within a grant, and what is not.
func TestPassWithin(t *testing.T) {
	b := custody.New()
	wantNo(t, 1)(b.Grant(0, 10, 3, 20, 5))
	wantNo(t, 2)(b.Grant(1, 10, 2, 20, -1))
	wantNo(t, 3)(b.Grant(2, 10, 1, 20, -1))
	wantErrno(t, api.OK, b.Next(20))
	tryPasses(t, b, []passCase{
		{0, deed{1, 9, 10, 3, 20, 5, false}, api.OK},
		{0, deed{1, 0, 10, 3, 20, 5, false}, api.OK},
		{0, deed{1, 9, 2, 1, 0, 1, false}, api.OK},
		{0, deed{1, 9, 8, 2, 19, 4, false}, api.OK},
		{1, deed{1, 9, 10, 3, 20, 5, false}, api.ErrRight},
		{9, deed{1, 9, 10, 3, 20, 5, false}, api.ErrRight},
		{0, deed{1, 9, 1, 3, 20, 5, false}, api.ErrRight},
		{0, deed{1, 9, 11, 3, 20, 5, false}, api.ErrRight},
		{0, deed{1, 9, 26, 3, 20, 5, false}, api.ErrRight},
		{0, deed{1, 9, allVaults, 3, 20, 5, false}, api.ErrRight},
		{0, deed{1, 9, 10, 3, 21, 5, false}, api.ErrRight},
		{0, deed{1, 9, 10, 3, maxDay, 5, false}, api.ErrRight},
		{0, deed{1, 9, 10, 3, 20, 6, false}, api.ErrRight},
		{0, deed{1, 9, 10, 3, 20, maxUses, false}, api.ErrRight},
		{0, deed{1, 9, 10, 3, 20, -1, false}, api.ErrRight},
		{1, deed{2, 9, 10, 2, 20, -1, false}, api.OK},
		{1, deed{2, 9, 10, 2, 20, maxUses, false}, api.OK},
		{1, deed{2, 9, 10, 2, 20, 1, false}, api.OK},
		{1, deed{2, 9, 10, 1, 20, -1, false}, api.ErrRight},
		{1, deed{2, 9, 10, 3, 20, -1, false}, api.ErrRight},
		{2, deed{3, 9, 10, 1, 20, -1, false}, api.ErrRight},
		{2, deed{3, 9, 10, 2, 20, -1, false}, api.ErrRight},
		{2, deed{3, 9, 10, 3, 20, -1, false}, api.ErrRight},
	})
	wantErrno(t, api.OK, b.Next(21))
	tryPasses(t, b, []passCase{
		{0, deed{1, 9, 10, 3, 20, 5, false}, api.ErrRight},
		{1, deed{2, 9, 10, 2, 20, -1, false}, api.ErrRight},
	})
}

// P6.1: no such grant comes before an argument, that before a right, and that before
// a book that is full.
func TestPassErrorOrder(t *testing.T) {
	b := custody.New()
	wantNo(t, 1)(b.Grant(0, 3, 3, 9, 5))
	l := []passCase{
		{-1, deed{2, -1, 0, 0, -1, 0, false}, api.ErrNone},
		{-1, deed{0, -1, 0, 0, -1, 0, false}, api.ErrNone},
		{5, deed{-1, 5, 4, 3, 10, 6, false}, api.ErrNone},
		{-1, deed{1, 0, 4, 3, 10, 6, false}, api.ErrArg},
		{16, deed{1, 0, 4, 3, 10, 6, false}, api.ErrArg},
		{5, deed{1, 16, 4, 3, 10, 6, false}, api.ErrArg},
		{5, deed{1, 0, 65536, 3, 10, 6, false}, api.ErrArg},
		{5, deed{1, 0, 4, 4, 10, 6, false}, api.ErrArg},
		{5, deed{1, 0, 4, 3, maxDay + 1, 6, false}, api.ErrArg},
		{5, deed{1, 0, 4, 3, 10, -2, false}, api.ErrArg},
		{5, deed{1, 0, 1, 1, 1, 1, false}, api.ErrRight},
		{0, deed{1, 0, 4, 1, 1, 1, false}, api.ErrRight},
	}
	tryPasses(t, b, l)
	for range maxGrants - 1 {
		b.Pass(1, 0, 0, 3, 3, 9, 5)
	}
	l[0].d.above = maxGrants + 1
	tryPasses(t, b, append(l, passCase{0, deed{1, 0, 1, 1, 1, 1, false}, api.ErrFull}))
}

// P6.1: uses are compared with those that are left; those above may have fewer, and
// several beneath may have as many.
func TestPassUses(t *testing.T) {
	b := custody.New()
	wantNo(t, 1)(b.Grant(0, 1, 3, 9, 3))
	wantNo(t, 2)(b.Grant(1, 1, 3, 9, -1))
	wantNo(t, 3)(b.Pass(1, 0, 2, 1, 3, 9, 3))
	wantNo(t, 4)(b.Pass(1, 0, 2, 1, 3, 9, 3))
	wantUses(t, b, 1, 3, 3, 3, 4, 3)
	wantErrno(t, api.OK, b.Open(0, 1, 0, 2, 1))
	wantUses(t, b, 1, 2, 2, -1, 3, 3, 4, 3)
	wantRefused(t, api.ErrRight)(b.Pass(1, 0, 2, 1, 3, 9, 3))
	wantNo(t, 5)(b.Pass(1, 0, 2, 1, 3, 9, 2))
	// Grant 3 has more uses than the one above it by now.
	wantNo(t, 6)(b.Pass(3, 2, 2, 1, 3, 9, 3))
	wantErrno(t, api.OK, b.Open(0, 6, 2, 2, 1))
	wantErrno(t, api.OK, b.Open(0, 5, 2, 2, 1))
	wantUses(t, b, 1, 0, 2, -1, 3, 2, 4, 3, 5, 1, 6, 2)
	// Nothing is within no uses; but beneath the others something is.
	wantRefused(t, api.ErrRight)(b.Pass(1, 0, 2, 1, 3, 9, 1))
	wantRefused(t, api.ErrRight)(b.Pass(1, 0, 2, 1, 3, 9, -1))
	wantNo(t, 7)(b.Pass(4, 2, 3, 1, 1, 9, 3))
	wantErrno(t, api.ErrFull, b.Open(0, 7, 3, 2, 1))
}

// P6.1: a right without the other one: what only passes on opens nothing, and what
// only opens is not passed on.
func TestRights(t *testing.T) {
	b := custody.New()
	wantNo(t, 1)(b.Grant(0, 1, 2, 9, -1))
	wantNo(t, 2)(b.Grant(1, 1, 1, 9, -1))
	wantErrno(t, api.ErrRight, b.Open(0, 1, 0, 2, 1))
	wantErrno(t, api.ErrRight, b.Open(0, 2, 1, 1, 0))
	wantRefused(t, api.ErrRight)(b.Pass(1, 0, 2, 1, 1, 9, -1))
	wantRefused(t, api.ErrRight)(b.Pass(2, 1, 2, 1, 1, 9, -1))
	wantNo(t, 3)(b.Pass(1, 0, 2, 1, 2, 9, -1))
	wantErrno(t, api.ErrRight, b.Open(0, 3, 2, 2, 1))
}

// P6.1: as many grants as there may be, roots and others.
func TestFull(t *testing.T) {
	for _, roots := range []int{1, 2, 64, maxGrants - 1, maxGrants} {
		b, g := custody.New(), &ledger{}
		for no := 1; no <= maxGrants; no++ {
			d := deed{0, no % 16, 5, 3, no, no, false}
			if no <= roots {
				wantNo(t, no)(b.Grant(d.holder, d.vaults, d.rights, d.until, d.uses))
				g.grant(d)
				continue
			}
			d = deed{no - roots, no % 16, 4, 2, 1, 1, false}
			by := g.of(d.above).holder
			wantNo(t, no)(b.Pass(d.above, by, d.holder, d.vaults, d.rights, d.until, d.uses))
			g.pass(by, d)
		}
		wantSame(t, b, g, 0, 3, allVaults)
		wantRefused(t, api.ErrFull)(b.Grant(0, 1, 1, 1, 1))
		wantRefused(t, api.ErrArg)(b.Grant(16, 1, 1, 1, 1))
		wantRefused(t, api.ErrFull)(b.Pass(1, 1, 0, 4, 2, 1, 1))
		wantRefused(t, api.ErrNone)(b.Pass(maxGrants+1, 1, 0, 4, 2, 1, 1))
		// A grant that is taken back leaves no room.
		wantNo(t, 1+len(g.below(1)))(b.Revoke(1, 1))
		g.revoke(1, 1)
		wantRefused(t, api.ErrFull)(b.Grant(0, 1, 1, 1, 1))
		wantSame(t, b, g, 0, 3, allVaults)
	}
}
