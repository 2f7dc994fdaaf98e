package custody_test

import (
	"testing"

	"kimberlite/api"
	"kimberlite/custody"
)

// P6.3: entries with their day, their vault and their grants, in the order in which
// they were named.
func TestOpen(t *testing.T) {
	b := custody.New()
	wantNo(t, 1)(b.Grant(0, allVaults, 1, 9, -1))
	wantNo(t, 2)(b.Grant(15, allVaults, 1, 9, -1))
	for v := range 16 {
		wantErrno(t, api.OK, b.Copy().Open(v, 1, 0, 2, 15))
	}
	wantErrno(t, api.OK, b.Open(15, 1, 0, 2, 15))
	wantErrno(t, api.OK, b.Open(0, 2, 15, 1, 0))
	wantErrno(t, api.OK, b.Next(9))
	wantErrno(t, api.OK, b.Open(3, 2, 15, 1, 0))
	wantErrno(t, api.OK, b.Open(3, 2, 15, 1, 0))
	wantErrno(t, api.OK, b.Next(10))
	wantErrno(t, api.ErrRight, b.Open(3, 2, 15, 1, 0))
	wantEntries(t, b, 0, 15, 1, 2, 0, 0, 2, 1, 9, 3, 2, 1, 9, 3, 2, 1)
}

// P6.3: every number at its limits and beyond them.
func TestOpenLimits(t *testing.T) {
	b := custody.New()
	wantNo(t, 1)(b.Grant(3, allVaults, 1, 9, -1))
	wantNo(t, 2)(b.Grant(4, allVaults, 1, 9, -1))
	right := func(yes bool, e api.Errno) api.Errno {
		if yes {
			return api.OK
		}
		return e
	}
	for _, n := range anyInts() {
		wantErrno(t, right(isVault(n), api.ErrArg), b.Copy().Open(n, 1, 3, 2, 4))
		wantErrno(t, right(n == 3, api.ErrRight), b.Copy().Open(0, 1, n, 2, 4))
		wantErrno(t, right(n == 4, api.ErrRight), b.Copy().Open(0, 1, 3, 2, n))
		if n != 1 && n != 2 {
			wantErrno(t, api.ErrNone, b.Copy().Open(0, n, 3, 2, 4))
			wantErrno(t, api.ErrNone, b.Copy().Open(0, 1, 3, n, 4))
			if !isVault(n) {
				wantErrno(t, api.ErrArg, b.Copy().Open(n, n, n, n, n))
			}
		}
	}
	wantEntries(t, b)
}

// Keys of the book of keyring: the user and the grant.
const (
	good  = iota // grant 1
	other        // grant 2, of another root and another holder
	none         // no grant
	alien        // grant 1, of another user
	late         // grant 3, which stands no longer
	back         // grant 4, which was revoked
	under        // grant 5, beneath grant 4
	blunt        // grant 6, which does not open
	apart        // grant 7, of another vault
	spent        // grant 8, without a use left
	short        // grant 9, beneath grant 8, with uses left
	twice        // grant 10, of the holder of grant 1, and of another root
	child        // grant 11, beneath grant 1, of another holder
	kinds
)

// keyring is a book, on the day 6, with a grant for each error of Open; and the
// number and the user of each kind.
func keyring(t *testing.T) (*custody.Book, [kinds][2]int) {
	t.Helper()
	b := custody.New()
	wantNo(t, 1)(b.Grant(0, 1, 3, 9, -1))
	wantNo(t, 2)(b.Grant(1, 1, 3, 9, -1))
	wantNo(t, 3)(b.Grant(2, 1, 3, 5, -1))
	wantNo(t, 4)(b.Grant(2, 1, 3, 9, -1))
	wantNo(t, 5)(b.Pass(4, 2, 2, 1, 3, 9, -1))
	wantNo(t, 6)(b.Grant(2, 1, 2, 9, -1))
	wantNo(t, 7)(b.Grant(2, allVaults-1, 3, 9, -1))
	wantNo(t, 8)(b.Grant(2, 1, 3, 9, 1))
	wantNo(t, 9)(b.Pass(8, 2, 2, 1, 3, 9, 1))
	wantNo(t, 10)(b.Grant(0, 1, 3, 9, -1))
	wantNo(t, 11)(b.Pass(1, 0, 3, 1, 3, 9, -1))
	wantNo(t, 2)(b.Revoke(4, 2))
	wantErrno(t, api.OK, b.Open(0, 8, 2, 1, 0))
	wantErrno(t, api.OK, b.Next(6))
	return b, [kinds][2]int{{1, 0}, {2, 1}, {12, 0}, {1, 1}, {3, 2}, {4, 2}, {5, 2}, {6, 2}, {7, 2}, {8, 2}, {9, 2}, {10, 0}, {11, 3}}
}

// P6.3: every two keys: what is wrong with the first one, then with the second one,
// then with both together.
func TestOpenErrorOrder(t *testing.T) {
	b, keys := keyring(t)
	alone := [kinds]api.Errno{none: api.ErrNone, alien: api.ErrRight, late: api.ErrRight, back: api.ErrRight, under: api.ErrRight,
		blunt: api.ErrRight, apart: api.ErrRight, spent: api.ErrFull, short: api.ErrFull}
	root := [kinds]int{good: 1, other: 2, twice: 10, child: 1}
	for i, one := range keys {
		for j, two := range keys {
			want := alone[i]
			if want == api.OK {
				want = alone[j]
			}
			if want == api.OK && (root[i] == root[j] || one[1] == two[1]) {
				want = api.ErrKey
			}
			c := b.Copy()
			if e := c.Open(0, one[0], one[1], two[0], two[1]); e != want {
				t.Errorf("keys %d and %d: error %d; want %d", i, j, e, want)
			}
			if e := b.Open(16, one[0], one[1], two[0], two[1]); e != api.ErrArg {
				t.Errorf("keys %d and %d: error %d; want ErrArg", i, j, e)
			}
			if n := len(c.Entries()) - len(b.Entries()); n != 0 && want != api.OK || n != 1 && want == api.OK {
				t.Errorf("keys %d and %d: %d entries", i, j, n)
			}
		}
	}
}

// P6.3: each grant and each above it that has a bound has one use less, and no other.
func TestOpenUses(t *testing.T) {
	b := custody.New()
	wantNo(t, 1)(b.Grant(0, 1, 3, 9, 9))
	wantNo(t, 2)(b.Grant(1, 1, 3, 9, -1))
	wantNo(t, 3)(b.Pass(1, 0, 2, 1, 3, 9, 4))
	wantNo(t, 4)(b.Pass(2, 1, 3, 1, 3, 9, -1))
	wantNo(t, 5)(b.Pass(3, 2, 4, 1, 3, 9, 2))
	wantNo(t, 6)(b.Pass(4, 3, 5, 1, 3, 9, 3))
	wantNo(t, 7)(b.Pass(3, 2, 6, 1, 3, 9, 4))
	wantErrno(t, api.OK, b.Open(0, 5, 4, 6, 5))
	wantUses(t, b, 1, 8, 2, -1, 3, 3, 4, -1, 5, 1, 6, 2, 7, 4)
	wantErrno(t, api.OK, b.Open(0, 4, 3, 5, 4))
	wantUses(t, b, 1, 7, 2, -1, 3, 2, 4, -1, 5, 0, 6, 2, 7, 4)
	wantErrno(t, api.ErrFull, b.Open(0, 4, 3, 5, 4))
	wantErrno(t, api.ErrFull, b.Open(0, 5, 4, 6, 5))
	wantErrno(t, api.OK, b.Open(0, 7, 6, 6, 5))
	wantErrno(t, api.OK, b.Open(0, 6, 5, 7, 6))
	wantUses(t, b, 1, 5, 2, -1, 3, 0, 4, -1, 5, 0, 6, 0, 7, 2)
	// Grant 7 has uses left, but the one above it has none; its root has.
	wantErrno(t, api.ErrFull, b.Open(0, 7, 6, 2, 1))
	wantErrno(t, api.ErrFull, b.Open(0, 1, 0, 6, 5))
	wantErrno(t, api.OK, b.Open(0, 1, 0, 2, 1))
	wantUses(t, b, 1, 4, 2, -1, 3, 0, 4, -1, 5, 0, 6, 0, 7, 2)
}

// P6.3: as many entries as there may be; that they are full comes last.
func TestOpenFull(t *testing.T) {
	b := custody.New()
	wantNo(t, 1)(b.Grant(0, 1, 3, 9, maxUses))
	wantNo(t, 2)(b.Grant(1, 1, 3, 9, -1))
	wantNo(t, 3)(b.Pass(1, 0, 2, 1, 1, 9, maxEntries))
	wantNo(t, 4)(b.Grant(0, 1, 3, 8, 1))
	wantNo(t, 5)(b.Grant(2, 1, 3, 9, 1))
	wantErrno(t, api.OK, b.Open(0, 5, 2, 2, 1))
	for i := 1; i < maxEntries; i++ {
		wantErrno(t, api.OK, b.Open(0, 3, 2, 2, 1))
	}
	wantErrno(t, api.OK, b.Next(9))
	for range 2 {
		wantErrno(t, api.ErrArg, b.Open(16, 3, 2, 2, 1))
		wantErrno(t, api.ErrNone, b.Open(0, 6, 2, 2, 1))
		wantErrno(t, api.ErrRight, b.Open(0, 4, 0, 2, 1))
		wantErrno(t, api.ErrFull, b.Open(0, 5, 2, 2, 1))
		wantErrno(t, api.ErrKey, b.Open(0, 1, 0, 3, 2))
		wantErrno(t, api.ErrFull, b.Open(0, 3, 2, 2, 1))
		wantErrno(t, api.ErrFull, b.Copy().Open(0, 1, 0, 2, 1))
	}
	wantUses(t, b, 1, maxUses-maxEntries+1, 2, -1, 3, 1, 4, 1, 5, 0)
	l := b.Entries()
	if len(l) != maxEntries || l[0] != (api.Entry{First: 5, Second: 2}) || l[maxEntries-1] != (api.Entry{First: 3, Second: 2}) {
		t.Fatalf("%d entries", len(l))
	}
	// Could is not about room for entries.
	wantNo(t, 1)(b.Could(7))
}
