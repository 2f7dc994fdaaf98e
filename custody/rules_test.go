package custody_test

import (
	"slices"
	"testing"

	"kimberlite/api"
	"kimberlite/custody"
)

// Rules 2 to 5 of DOC.md, P1 and P2: what holds for all functions of the package.

// Rule 3: a book that is nil, or that no function returned, whatever is asked of it.
func TestNil(t *testing.T) {
	for _, b := range []*custody.Book{nil, {}, new(custody.Book)} {
		for _, n := range anyInts() {
			wantRefused(t, api.ErrNil)(b.Grant(n, n, n, n, n))
			wantRefused(t, api.ErrNil)(b.Pass(n, n, n, n, n, n, n))
			wantRefused(t, api.ErrNil)(b.Revoke(n, n))
			wantErrno(t, api.ErrNil, b.Open(n, n, n, n, n))
			wantErrno(t, api.ErrNil, b.Next(n))
			wantNothing(t, b, n, api.ErrNil)
			wantRefused(t, api.ErrNil)(b.Could(n))
		}
		wantRefused(t, api.ErrNil)(b.Grant(0, 1, 1, 1, 1))
		if b.Day() != 0 || b.Entries() != nil || b.Copy() != nil {
			t.Errorf("day %d, entries %v, copy %v", b.Day(), b.Entries(), b.Copy())
		}
	}
	if b := custody.New().Copy(); b == nil || count(b) != 0 {
		t.Errorf("a copy of a new book is %v", b)
	}
}

// wipe overwrites a list, and what is behind its end.
func wipe[T any](l []T, with T) {
	l = l[:cap(l)]
	for i := range l {
		l[i] = with
	}
}

// Rule 4: lists that a book gave away are not its own.
func TestMemory(t *testing.T) {
	b := tree(t)
	for range 5 {
		wantErrno(t, api.OK, b.Open(0, 1, 1, 2, 2))
	}
	numbers := []int{0, 0, 1, 2, 0, 0, 1, 2, 0, 0, 1, 2, 0, 0, 1, 2, 0, 0, 1, 2}
	for range 3 {
		entries, below := b.Entries(), make([][]int, 8)
		for no := 1; no <= 7; no++ {
			below[no], _ = b.Below(no)
		}
		c := b.Copy()
		wipe(b.Entries(), api.Entry{Day: -77})
		for no := 1; no <= 7; no++ {
			l, _ := b.Below(no)
			wipe(l, -77)
		}
		wantEntries(t, b, numbers...)
		wantEntries(t, c, numbers...)
		wantErrno(t, api.OK, b.Open(1, 4, 4, 7, 7))
		numbers = append(numbers, 0, 1, 4, 7)
		wantEntries(t, b, numbers...)
		if len(entries) != len(numbers)/4-1 || slices.Contains(entries, api.Entry{Day: -77}) {
			t.Fatalf("entries that were given away are now %v", entries)
		}
		if !slices.Equal(below[1], []int{3, 4, 5, 6}) || !slices.Equal(below[3], []int{5, 6}) {
			t.Fatalf("numbers that were given away are now %v", below)
		}
	}
}

// Rule 2: a call that fails changes nothing, and uses up no number.
func TestErrorsChangeNothing(t *testing.T) {
	b, keys := keyring(t)
	was, entries := grants(b), b.Entries()
	for _, n := range anyInts() {
		b.Grant(n, 0, 1, 1, 1)
		b.Pass(n, 9, 9, 1, 1, 1, 1)
		b.Pass(1, 0, 0, 3, 1, n, 1)
		b.Revoke(n, 9)
		b.Open(n, 1, 0, 1, 0)
		b.Next(min(n, 5))
		b.Could(max(n, allVaults+1))
	}
	for _, one := range keys[none:] {
		b.Open(0, one[0], one[1], keys[good][0], keys[good][1])
		b.Open(0, keys[good][0], keys[good][1], one[0], one[1])
	}
	if b.Day() != 6 || !slices.Equal(grants(b), was) || !slices.Equal(b.Entries(), entries) {
		t.Fatalf("day %d, entries %v, grants %v; want %v, %v", b.Day(), b.Entries(), grants(b), entries, was)
	}
	wantNo(t, len(was)+1)(b.Grant(0, 1, 1, 1, 1))
}

// P2: the same calls have the same results, in any book.
func TestSameAgain(t *testing.T) {
	var l [2][]api.Grant
	var could [2][]int
	for i := range l {
		d := dice(5)
		w := newWalker(t, &d, 4)
		for range 300 {
			w.step()
			n, _ := w.b.Could(d.next(16))
			could[i] = append(could[i], n)
		}
		l[i] = grants(w.b)
	}
	if !slices.Equal(l[0], l[1]) || !slices.Equal(could[0], could[1]) {
		t.Errorf("first %v, %v; then %v, %v", l[0], could[0], l[1], could[1])
	}
}
