package custody_test

import (
	"slices"
	"testing"

	"kimberlite/api"
	"kimberlite/custody"
)

// wantNothing fails unless Get, Stands and Below refuse a number with this error.
func wantNothing(t *testing.T, b *custody.Book, no int, want api.Errno) {
	t.Helper()
	if g, e := b.Get(no); g != (api.Grant{}) || e != want {
		t.Fatalf("Get(%d): %v, error %d; want error %d", no, g, e, want)
	}
	if yes, e := b.Stands(no); yes || e != want {
		t.Fatalf("Stands(%d): %v, error %d; want error %d", no, yes, e, want)
	}
	if l, e := b.Below(no); len(l) != 0 || e != want {
		t.Fatalf("Below(%d): %v, error %d; want error %d", no, l, e, want)
	}
}

// P6.5: grants of the tree, and numbers of none.
func TestLooks(t *testing.T) {
	b := tree(t)
	wantGot(t, b, api.Grant{No: 1, Root: 1, Holder: 1, Vaults: 3, Rights: 3, Until: 9, Uses: -1})
	wantGot(t, b, api.Grant{No: 3, Above: 1, Root: 1, Holder: 3, Vaults: 3, Rights: 3, Until: 9, Uses: -1})
	wantGot(t, b, api.Grant{No: 6, Above: 3, Root: 1, Holder: 6, Vaults: 3, Rights: 3, Until: 4, Uses: -1})
	wantGot(t, b, api.Grant{No: 7, Above: 2, Root: 2, Holder: 7, Vaults: 3, Rights: 3, Until: 9, Uses: -1})
	wantNo(t, 3)(b.Revoke(3, 3))
	wantGot(t, b, api.Grant{No: 3, Above: 1, Root: 1, Holder: 3, Vaults: 3, Rights: 3, Until: 9, Uses: -1, Revoked: true})
	wantGot(t, b, api.Grant{No: 6, Above: 3, Root: 1, Holder: 6, Vaults: 3, Rights: 3, Until: 4, Uses: -1})
	for no, want := range [][]int{1: {3, 4, 5, 6}, 2: {7}, 3: {5, 6}, 4: nil, 5: nil, 6: nil, 7: nil} {
		if no == 0 {
			continue
		}
		if got, e := b.Below(no); !slices.Equal(got, want) || e != api.OK {
			t.Errorf("Below(%d): %v, error %d; want %v", no, got, e, want)
		}
	}
	for _, n := range anyInts() {
		if n < 1 || n > 7 {
			wantNothing(t, b, n, api.ErrNone)
		}
	}
}

// P6.5: a copy goes on alone, and so does what it was made of.
func TestCopy(t *testing.T) {
	b := tree(t)
	wantErrno(t, api.OK, b.Next(2))
	wantErrno(t, api.OK, b.Open(1, 5, 5, 7, 7))
	c := b.Copy()
	d := c.Copy()
	wantNo(t, 8)(b.Grant(8, 1, 1, 8, 8))
	wantErrno(t, api.OK, b.Open(0, 2, 2, 3, 3))
	wantNo(t, 8)(c.Pass(2, 2, 9, 1, 1, 7, 7))
	wantNo(t, 3)(c.Revoke(3, 1))
	wantErrno(t, api.OK, c.Next(3))
	wantErrno(t, api.OK, c.Open(1, 4, 4, 7, 7))
	wantEntries(t, b, 2, 1, 5, 7, 2, 0, 2, 3)
	wantEntries(t, c, 2, 1, 5, 7, 3, 1, 4, 7)
	wantEntries(t, d, 2, 1, 5, 7)
	wantGot(t, b, api.Grant{No: 8, Root: 8, Holder: 8, Vaults: 1, Rights: 1, Until: 8, Uses: 8})
	wantGot(t, c, api.Grant{No: 8, Above: 2, Root: 2, Holder: 9, Vaults: 1, Rights: 1, Until: 7, Uses: 7})
	wantNothing(t, d, 8, api.ErrNone)
	wantStand(t, b, 1, 2, 3, 4, 5, 6, 7, 8)
	wantStand(t, c, 1, 2, 4, 7, 8)
	wantStand(t, d, 1, 2, 3, 4, 5, 6, 7)
	if b.Day() != 2 || c.Day() != 3 || d.Day() != 2 {
		t.Errorf("days %d, %d and %d", b.Day(), c.Day(), d.Day())
	}
}

// P6.5: the uses of a copy are its own.
func TestCopyUses(t *testing.T) {
	b := custody.New()
	wantNo(t, 1)(b.Grant(0, 1, 3, 9, 2))
	wantNo(t, 2)(b.Grant(1, 1, 3, 9, 3))
	c := b.Copy()
	wantErrno(t, api.OK, c.Open(0, 1, 0, 2, 1))
	wantUses(t, b, 1, 2, 2, 3)
	wantUses(t, c, 1, 1, 2, 2)
	wantErrno(t, api.OK, b.Open(0, 1, 0, 2, 1))
	wantErrno(t, api.OK, b.Open(0, 1, 0, 2, 1))
	wantUses(t, b, 1, 0, 2, 1)
	wantUses(t, c, 1, 1, 2, 2)
}

// P6.5: the lists of a copy are its own, however long they are.
func TestCopyLists(t *testing.T) {
	b := tree(t)
	for n := 1; n <= 40; n++ {
		c := b.Copy()
		wantErrno(t, api.OK, b.Open(0, 1, 1, 2, 2))
		wantErrno(t, api.OK, c.Open(1, 4, 4, 7, 7))
		wantNo(t, 7+n)(b.Grant(3, 4, 1, 9, 5))
		wantNo(t, 7+n)(c.Grant(4, 8, 1, 9, 5))
		l, m := b.Entries(), c.Entries()
		if len(l) != n || len(m) != n || l[n-1].First != 1 || m[n-1].First != 4 || !slices.Equal(l[:n-1], m[:n-1]) {
			t.Fatalf("entries %v, and of the copy %v", l, m)
		}
		wantGot(t, b, api.Grant{No: 7 + n, Root: 7 + n, Holder: 3, Vaults: 4, Rights: 1, Until: 9, Uses: 5})
		wantGot(t, c, api.Grant{No: 7 + n, Root: 7 + n, Holder: 4, Vaults: 8, Rights: 1, Until: 9, Uses: 5})
	}
}

// P6.6: groups that are none, and the group of nobody.
func TestCouldLimits(t *testing.T) {
	b := tree(t)
	for _, n := range anyInts() {
		if n < 0 || n > allVaults {
			wantRefused(t, api.ErrArg)(b.Could(n))
		}
	}
	wantNo(t, 0)(b.Could(0))
	wantNo(t, 3)(b.Could(allVaults))
	wantNo(t, 0)(custody.New().Could(allVaults))
}

// P6.6: two grants of a group, each of any rights and either holder.
func TestCouldOfTwo(t *testing.T) {
	for one := 1; one <= both; one++ {
		for two := 1; two <= both; two++ {
			for holder := range 2 {
				b := custody.New()
				wantNo(t, 1)(b.Grant(0, 6, one, 9, -1))
				wantNo(t, 2)(b.Grant(holder, 12, two, 9, -1))
				opens := one != api.RightPass && two != api.RightPass
				passes := one == both || two == both
				for persons := range 8 {
					want := 0
					if opens && (holder == 1 && has(persons, 0) && has(persons, 1) ||
						holder == 0 && has(persons, 0) && persons > 1 && passes) {
						want = 4
					}
					wantNo(t, want)(b.Could(persons))
				}
			}
		}
	}
}

// P6.6: a single grant, and two of one root, open nothing.
func TestCouldOneRoot(t *testing.T) {
	b := custody.New()
	wantNo(t, 1)(b.Grant(0, 3, 3, 9, -1))
	wantNo(t, 0)(b.Could(3))
	wantNo(t, 2)(b.Pass(1, 0, 1, 3, 3, 9, -1))
	wantNo(t, 3)(b.Pass(2, 1, 2, 3, 3, 9, -1))
	wantNo(t, 0)(b.Could(allVaults))
	wantNo(t, 4)(b.Grant(2, 2, 1, 9, -1))
	wantNo(t, 2)(b.Could(5))
	wantNo(t, 2)(b.Could(6))
	wantNo(t, 0)(b.Could(4))
	wantNo(t, 0)(b.Could(3))
	wantNo(t, 2)(b.Could(12))
}

// P6.6: grants that stand no longer, and grants without uses, their own or above.
func TestCouldOfKeyring(t *testing.T) {
	b, _ := keyring(t)
	// Person 2 has grants of each sort that opens nothing, and only they meet 1's.
	wantNo(t, 0)(b.Could(6))
	wantNo(t, 1)(b.Could(3))
	wantNo(t, 1)(b.Could(10))
	// Grants 1 and 10 are both held by person 0, who can pass on.
	wantNo(t, 0)(b.Could(1))
	wantNo(t, 1)(b.Could(5))
	wantNo(t, 1)(b.Could(1 | 1<<15))
}

// P6.6: each day, and each use.
func TestCouldLater(t *testing.T) {
	b := custody.New()
	wantNo(t, 1)(b.Grant(0, 3, 1, 4, 2))
	wantNo(t, 2)(b.Grant(1, 1, 1, 9, -1))
	wantNo(t, 3)(b.Grant(1, 2, 1, 3, -1))
	wantNo(t, 3)(b.Could(3))
	wantErrno(t, api.OK, b.Open(0, 1, 0, 2, 1))
	wantErrno(t, api.OK, b.Next(3))
	wantNo(t, 3)(b.Could(3))
	wantErrno(t, api.OK, b.Next(4))
	wantNo(t, 1)(b.Could(3))
	c := b.Copy()
	wantErrno(t, api.OK, c.Open(0, 1, 0, 2, 1))
	wantNo(t, 0)(c.Could(3))
	c = b.Copy()
	wantNo(t, 1)(c.Revoke(2, 1))
	wantNo(t, 0)(c.Could(3))
	wantErrno(t, api.OK, b.Next(5))
	wantNo(t, 0)(b.Could(3))
}

// P6.6: several pairs of keys open several vaults.
func TestCouldOfMany(t *testing.T) {
	b := custody.New()
	for v := range 16 {
		wantNo(t, 2*v+1)(b.Grant(v, 1<<v, 1, 9, -1))
		wantNo(t, 2*v+2)(b.Grant((v+1)%16, 1<<v, 1, 9, -1))
	}
	wantNo(t, allVaults)(b.Could(allVaults))
	for v := range 15 {
		wantNo(t, 1<<v)(b.Could(3 << v))
	}
	wantNo(t, 1<<15)(b.Could(1<<15 | 1))
	wantNo(t, 0)(b.Could(0x5555))
}
