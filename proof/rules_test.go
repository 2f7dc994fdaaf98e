package proof_test

import (
	"bytes"
	"slices"
	"testing"

	"kimberlite/api"
	"kimberlite/proof"
)

// Rules 2 to 5 of DOC.md, P1 and P2: what holds for all functions of the package.

// Rule 3, P7.7: a log that is nil, or that no function returned, whatever is asked of
// it.
func TestNil(t *testing.T) {
	for _, log := range []*proof.Log{nil, {}, new(proof.Log)} {
		for range 2 {
			for _, b := range [][]byte{nil, {1}, make([]byte, maxEntry+1)} {
				if i, e := log.Add(b); i != 0 || e != api.ErrNil {
					t.Fatalf("Add: %d, error %d", i, e)
				}
			}
			for _, n := range anyInts() {
				if r, e := log.RootAt(n); r != 0 || e != api.ErrNil {
					t.Fatalf("RootAt(%d): %d, error %d", n, r, e)
				}
				wantNoList[byte](t, api.ErrNil)(log.Entry(n))
				for _, i := range anyInts() {
					wantNoList[api.Step](t, api.ErrNil)(log.Include(i, n))
					wantNoList[uint64](t, api.ErrNil)(log.Extend(i, n))
				}
			}
			if log.Len() != 0 || log.Root() != 0 || log.Copy() != nil {
				t.Fatalf("%d entries, root %d, copy %v", log.Len(), log.Root(), log.Copy())
			}
		}
	}
	log := proof.New().Copy()
	if log == nil {
		t.Fatalf("a new log has no copy")
	}
	wantLog(t, log, nil)
	if i, e := log.Add(nil); i != 0 || e != api.OK {
		t.Errorf("Add to a copy of a new log: %d, error %d", i, e)
	}
}

// wipe overwrites a list, and what is behind its end.
func wipe[T any](l []T, with T) {
	l = l[:cap(l)]
	for i := range l {
		l[i] = with
	}
}

// Rule 4: a log keeps no argument, and gives nothing away that is its own.
func TestLogMemory(t *testing.T) {
	d := dice(50)
	var l [][]byte
	log := proof.New()
	for n := 1; n <= 20; n++ {
		b := d.entry(20)
		l = append(l, slices.Clone(b))
		log.Add(b)
		wipe(b, 77)
		c := log.Copy()
		entry, _ := log.Entry(n - 1)
		steps, _ := log.Include(n/2, n)
		hashes, _ := log.Extend(n/2+1, n)
		for i := range n {
			other, _ := log.Entry(i)
			wipe(other, 78)
			others, _ := log.Include(i, n)
			wipe(others, api.Step{Hash: 78})
			more, _ := log.Extend(i+1, n)
			wipe(more, 78)
		}
		wantLog(t, log, l, n)
		wantLog(t, c, l, n)
		if !bytes.Equal(entry, l[n-1]) || !slices.Equal(steps, includeOf(l, n/2)) || !slices.Equal(hashes, extendOf(l, n/2+1, true)) {
			t.Fatalf("what was given away is now %v, %v and %v", entry, steps, hashes)
		}
		wipe(entry, 79)
		wantLog(t, log, l, n)
		wantLog(t, c, l, n)
	}
}

// Rule 4: no function changes an argument, nor what is behind its end.
func TestArguments(t *testing.T) {
	d := dice(51)
	for n := 1; n <= 12; n++ {
		// One array has all entries, with other bytes between them.
		all := d.entry(maxEntry)
		all = append(all, make([]byte, 300)...)
		var l [][]byte
		for i := range n {
			l = append(l, all[20*i:20*i+d.next(10)])
		}
		l = append(l, []byte("behind"))[:n]
		root := rootOf(l)
		wasAll, was := slices.Clone(all), slices.Clone(l[:n+1])
		for i := range n {
			steps := append(includeOf(l, i), api.Step{Hash: 9})
			hashes := append(extendOf(l, i+1, true), 9)
			wasSteps, wasHashes := slices.Clone(steps), slices.Clone(hashes)
			given, proven := steps[:len(steps)-1], hashes[:len(hashes)-1]
			proof.Root(l)
			proof.Include(l, i)
			proof.Extend(l, i+1)
			proof.Mix(l[i])
			proof.Leaf(l[i])
			proof.Follow(l[i], given)
			wantBool(t, true)(proof.Included(l[i], i, n, root, given))
			wantBool(t, true)(proof.Extended(i+1, n, rootOf(l[:i+1]), root, proven))
			proof.Accuse(i, n, l[i], given, l[0], given)
			proof.New().Add(l[i])
			if !bytes.Equal(all, wasAll) || !slices.Equal(steps, wasSteps) || !slices.Equal(hashes, wasHashes) {
				t.Fatalf("%v, %v and %v are now %v, %v and %v", wasAll, wasSteps, wasHashes, all, steps, hashes)
			}
		}
		for i, b := range l[:n+1] {
			if !bytes.Equal(b, was[i]) || len(b) > 0 && &b[0] != &was[i][0] {
				t.Fatalf("entry %d is now %v; it was %v", i, b, was[i])
			}
		}
	}
}

// Rule 4: results are new memory.
func TestResultsMemory(t *testing.T) {
	d := dice(52)
	l := d.entries(13, 20)
	for i := range l {
		steps, _ := proof.Include(l, i)
		hashes, _ := proof.Extend(l, i+1)
		other, _ := proof.Include(l, i)
		more, _ := proof.Extend(l, i+1)
		wipe(other, api.Step{Hash: 78})
		wipe(more, 78)
		if !slices.Equal(steps, includeOf(l, i)) || !slices.Equal(hashes, extendOf(l, i+1, true)) {
			t.Fatalf("what was given away is now %v and %v", steps, hashes)
		}
	}
	// The strings of a blame are neither the entries nor each other.
	w := d.collide(leftsOf(2, 5), []bool{true, false, true, true})
	for range 2 {
		b, e := accuse(2, 5, w)
		one, two := slices.Clone(b.One), slices.Clone(b.Two)
		wipe(b.One, 78)
		if e != api.OK || !bytes.Equal(b.Two, two) {
			t.Fatalf("the second string is now %v; it was %v", b.Two, two)
		}
		wipe(b.Two, 79)
		wantBlame(t, 2, 5, w, 0)
		if !bytes.Equal(one[1:], w.one) || !bytes.Equal(two[1:], w.two) {
			t.Fatalf("the entries are now %v and %v", w.one, w.two)
		}
	}
}

// Rule 2: a call that fails changes nothing, and uses up no index.
func TestErrorsChangeNothing(t *testing.T) {
	d := dice(53)
	l := d.entries(11, 20)
	log := logOf(t, l)
	wantNothing(t, log)
	log.Add(make([]byte, maxEntry+1))
	wantNothing(t, log)
	wantLog(t, log, l, 1, 5, 11)
	if i, e := log.Add([]byte("next")); i != 11 || e != api.OK {
		t.Errorf("Add: %d, error %d", i, e)
	}
	wantLog(t, log, append(l, []byte("next")), 5, 11, 12)
}

// P2: the same calls have the same results, whatever was called before.
func TestSameAgain(t *testing.T) {
	d := dice(54)
	l := d.entries(30, 20)
	w := d.collide(leftsOf(2, 5), []bool{false, true, false, true})
	a, b := logOf(t, l), logOf(t, l)
	for i := range l {
		one, _ := a.Include(i, 30)
		a.Extend(i+1, 30)
		a.RootAt(i)
		a.Entry(i)
		a.Copy().Add(l[i])
		two, _ := b.Include(i, 30)
		again, _ := a.Include(i, 30)
		if !slices.Equal(one, two) || !slices.Equal(one, again) {
			t.Fatalf("%v, %v and %v", one, two, again)
		}
		x, _ := accuse(2, 5, w)
		y, _ := accuse(2, 5, w)
		if !bytes.Equal(x.One, y.One) || !bytes.Equal(x.Two, y.Two) {
			t.Fatalf("%v and %v", x, y)
		}
	}
	wantLog(t, a, l, 30)
	wantLog(t, b, l, 30)
}

// P1: as many steps, hashes and bytes as one likes, and numbers of all kinds.
func TestAnything(t *testing.T) {
	steps, hashes, entry := make([]api.Step, 1<<18), make([]uint64, 1<<20), make([]byte, 1<<20)
	proof.Follow(entry, steps)
	for _, n := range anyInts() {
		for _, i := range anyInts() {
			proof.Included(entry, i, n, 0, steps)
			proof.Included(nil, i, n, 0, steps)
			proof.Extended(i, n, 0, 0, hashes)
			proof.Accuse(i, n, entry, steps, nil, steps)
			proof.Accuse(i, n, nil, steps, []byte{1}, steps)
		}
	}
}
