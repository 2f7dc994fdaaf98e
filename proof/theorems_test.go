package proof_test

import (
	"bytes"
	"slices"
	"strconv"
	"testing"

	"kimberlite/api"
	"kimberlite/proof"
)

// P7.8, P7.11: each proof of lists of any length holds, and is short.
func TestComplete(t *testing.T) {
	d := dice(60)
	try := func(l [][]byte, root uint64, i int) {
		t.Helper()
		n := len(l)
		digits := len(strconv.FormatInt(int64(n), 2))
		steps, e := proof.Include(l, i)
		wantErrno(t, api.OK, e)
		wantBool(t, true)(proof.Included(l[i], i, n, root, steps))
		hashes, e := proof.Extend(l, i+1)
		wantErrno(t, api.OK, e)
		old, _ := proof.Root(l[:i+1])
		wantBool(t, true)(proof.Extended(i+1, n, old, root, hashes))
		if len(steps) > digits || len(hashes) > digits+1 {
			t.Fatalf("%d of %d: %d steps, %d hashes", i, n, len(steps), len(hashes))
		}
	}
	for n := 1; n <= 130; n++ {
		l := d.entries(n, 10)
		root, _ := proof.Root(l)
		for i := range n {
			try(l, root, i)
		}
	}
	for _, n := range bigCounts() {
		l := d.entries(n, 10)
		root, _ := proof.Root(l)
		for _, i := range []int{0, 1, kOf(n) - 1, kOf(n), n - 2, n - 1} {
			try(l, root, min(i, n-1))
		}
		for range 20 {
			try(l, root, d.next(n))
		}
	}
}

// P7.9: whoever has two proofs of one place under one root has two strings that
// collide, wherever and however often the ways meet.
func TestSound(t *testing.T) {
	d := dice(61)
	for range 150 {
		n := 1 + d.next(64)
		if d.next(4) == 0 {
			n = 1 + d.next(maxEntries)
		}
		i := d.next(n)
		lefts := leftsOf(i, n)
		meets := make([]bool, len(lefts)+1)
		for level := range meets {
			meets[level] = d.next(5) == 0
		}
		meets[len(lefts)] = true
		w := d.collide(lefts, meets)
		root := followOf(w.two, w.twoSteps)
		wantBool(t, true)(proof.Included(w.one, i, n, root, w.oneSteps))
		wantBool(t, true)(proof.Included(w.two, i, n, root, w.twoSteps))
		b, e := accuse(i, n, w)
		if e != api.OK || bytes.Equal(b.One, b.Two) || proof.Mix(b.One) != proof.Mix(b.Two) {
			t.Fatalf("%d of %d: %v and %v, error %d", i, n, b.One, b.Two, e)
		}
		same := func(l [][]byte, s []byte) bool {
			return slices.ContainsFunc(l, func(x []byte) bool { return bytes.Equal(x, s) })
		}
		if !same(stringsOf(w.one, w.oneSteps), b.One) || !same(stringsOf(w.two, w.twoSteps), b.Two) {
			t.Fatalf("%d of %d: %v and %v are not mixed", i, n, b.One, b.Two)
		}
	}
}

// P7.9: a list, and another one of its root, of which an entry was exchanged for its
// twin: all other entries are proven by both, and that one shows who is to blame.
func TestExchanged(t *testing.T) {
	d := dice(62)
	for n := 1; n <= 20; n++ {
		l := d.entries(n, 20)
		i := d.next(n)
		other := slices.Clone(l)
		other[i] = d.twinOf(l[i])
		root, _ := proof.Root(l)
		wantHash(t, root)(proof.Root(other))
		for j := range n {
			one, _ := proof.Include(l, j)
			two, _ := proof.Include(other, j)
			b, e := proof.Accuse(j, n, l[j], one, other[j], two)
			switch {
			case j != i && e != api.ErrProof:
				t.Fatalf("%d of %d: error %d", j, n, e)
			case j == i && (e != api.OK || bytes.Equal(b.One, b.Two) || proof.Mix(b.One) != proof.Mix(b.Two)):
				t.Fatalf("%d of %d: %v and %v, error %d", j, n, b.One, b.Two, e)
			}
		}
	}
}

// P7.10: what a log once said of its beginning stays, and is proven by all it says
// later.
func TestOnlyAdded(t *testing.T) {
	d := dice(63)
	log := proof.New()
	roots := []uint64{0}
	for n := 1; n <= 80; n++ {
		log.Add(d.entry(20))
		roots = append(roots, log.Root())
		for m := range n + 1 {
			wantHash(t, roots[m])(log.RootAt(m))
		}
		for m := 1; m <= n; m++ {
			hashes, e := log.Extend(m, n)
			wantErrno(t, api.OK, e)
			wantBool(t, true)(proof.Extended(m, n, roots[m], roots[n], hashes))
			wantBool(t, false)(proof.Extended(m, n, roots[m-1], roots[n], hashes))
		}
	}
	for n := 1; n <= 80; n++ {
		for m := 1; m <= n; m++ {
			hashes, _ := log.Extend(m, n)
			wantBool(t, true)(proof.Extended(m, n, roots[m], roots[n], hashes))
		}
	}
}

// P7.10: a log whose beginning was changed has no proof of the old one.
func TestNotOnlyAdded(t *testing.T) {
	d := dice(64)
	for n := 2; n <= 24; n++ {
		l := d.entries(n, 20)
		m := 1 + d.next(n-1)
		old := rootOf(l[:m])
		forged := slices.Clone(l)
		forged[d.next(m)] = []byte("forged " + strconv.Itoa(n))
		log := logOf(t, forged)
		for a := 1; a <= n; a++ {
			hashes, _ := log.Extend(a, n)
			wantBool(t, false)(proof.Extended(m, n, old, log.Root(), hashes))
		}
	}
}
