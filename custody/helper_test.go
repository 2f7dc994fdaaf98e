package custody_test

import (
	"slices"
	"testing"

	"kimberlite/api"
	"kimberlite/custody"
)

const (
	maxInt     = int(^uint(0) >> 1)
	minInt     = -maxInt - 1
	maxUses    = api.MaxUses
	maxDay     = api.MaxDay
	maxGrants  = api.MaxGrants
	maxEntries = api.MaxEntries
	allVaults  = 65535
	both       = api.RightOpen | api.RightPass
)

// anyInts are numbers just at and beyond all limits, and far beyond them.
func anyInts() []int {
	l := []int{minInt, minInt + 1, -1 << 32, -65536, -65535, -16, -4, -3, -2, -1, 0, 1, 2, 3, 4, 5, 7, 8, 14, 15, 16, 17}
	l = append(l, 31, 32, 63, 64, 65, 127, 128, 129, 32767, 32768, 65534, 65535, 65536, 65537)
	l = append(l, maxUses-1, maxUses, maxUses+1, maxDay-1, maxDay, maxDay+1, 1<<32, 1<<32+1, 1<<33)
	return append(l, maxInt-1, maxInt)
}

// What the chapter asks of numbers.
func isPerson(n int) bool { return n >= 0 && n <= 15 }
func isVault(n int) bool  { return n >= 0 && n <= 15 }
func isVaults(n int) bool { return n >= 1 && n <= 65535 }
func isRights(n int) bool { return n == 1 || n == 2 || n == 3 }
func isDay(n int) bool    { return n >= 0 && n <= 1<<30 }
func isUses(n int) bool   { return n == -1 || n >= 1 && n <= 1<<20 }

// has reports whether a set of bits has i.
func has(set, i int) bool {
	for range i {
		set /= 2
	}
	return set%2 == 1
}

// isPart reports whether a set of bits is within another one.
func isPart(part, set int) bool {
	for i := range 16 {
		if has(part, i) && !has(set, i) {
			return false
		}
	}
	return true
}

// wantNo fails unless a call gave this number, without an error.
func wantNo(t *testing.T, want int) func(int, api.Errno) {
	return func(got int, e api.Errno) {
		t.Helper()
		if got != want || e != api.OK {
			t.Fatalf("got %d, error %d; want %d", got, e, want)
		}
	}
}

// wantRefused fails unless a call gave this error, and 0.
func wantRefused(t *testing.T, want api.Errno) func(int, api.Errno) {
	return func(got int, e api.Errno) {
		t.Helper()
		if got != 0 || e != want {
			t.Fatalf("got %d, error %d; want error %d", got, e, want)
		}
	}
}

// wantErrno fails unless a call gave this error.
func wantErrno(t *testing.T, want, got api.Errno) {
	t.Helper()
	if got != want {
		t.Fatalf("error %d; want %d", got, want)
	}
}

// wantGot fails unless Get gives this grant.
func wantGot(t *testing.T, b *custody.Book, want api.Grant) {
	t.Helper()
	if got, e := b.Get(want.No); got != want || e != api.OK {
		t.Fatalf("got %v, error %d; want %v", got, e, want)
	}
}

// wantUses fails unless so many uses are left of each of these grants: a number and
// its uses, in turn.
func wantUses(t *testing.T, b *custody.Book, numbers ...int) {
	t.Helper()
	for i := 0; i+1 < len(numbers); i += 2 {
		if g, e := b.Get(numbers[i]); g.Uses != numbers[i+1] || e != api.OK {
			t.Fatalf("grant %d has the uses %d, error %d; want %d", numbers[i], g.Uses, e, numbers[i+1])
		}
	}
}

// wantStand fails unless just these grants stand.
func wantStand(t *testing.T, b *custody.Book, want ...int) {
	t.Helper()
	for i := range count(b) {
		no := i + 1
		got, e := b.Stands(no)
		if got != slices.Contains(want, no) || e != api.OK {
			t.Fatalf("grant %d stands: %v, error %d; want those that stand to be %v", no, got, e, want)
		}
	}
}

// wantEntries fails unless these are the entries: a day, a vault and two grants, in
// turn.
func wantEntries(t *testing.T, b *custody.Book, numbers ...int) {
	t.Helper()
	var want []api.Entry
	for i := 0; i+3 < len(numbers); i += 4 {
		want = append(want, api.Entry{Day: numbers[i], Vault: numbers[i+1], First: numbers[i+2], Second: numbers[i+3]})
	}
	if got := b.Entries(); !slices.Equal(got, want) {
		t.Fatalf("entries %v; want %v", got, want)
	}
}

// count is how many grants a book has.
func count(b *custody.Book) int {
	no := 0
	for {
		if _, e := b.Get(no + 1); e != api.OK {
			return no
		}
		no++
	}
}

// grants are all grants of a book, as Get gives them.
func grants(b *custody.Book) []api.Grant {
	var l []api.Grant
	for i := range count(b) {
		g, _ := b.Get(i + 1)
		l = append(l, g)
	}
	return l
}

// dice gives numbers that are always the same ones.
type dice uint64

// next is a number from 0 to n - 1.
func (d *dice) next(n int) int {
	*d = *d*6364136223846793005 + 1442695040888963407
	return int(*d>>33) % n
}

// some is one of a list.
func (d *dice) some(l ...int) int { return l[d.next(len(l))] }

// odd is mostly usual, and now and then any number at all.
func (d *dice) odd(usual int) int {
	if d.next(50) > 0 {
		return usual
	}
	return d.some(anyInts()...)
}
