package proof_test

import (
	"slices"
	"testing"

	"kimberlite/api"
	"kimberlite/proof"
)

// The chapter's second example, and other proofs written out.
func TestExtendExample(t *testing.T) {
	node := proof.Node
	l := letters(7)
	var x []uint64
	for _, b := range l {
		x = append(x, proof.Leaf(b))
	}
	wantList(t, x[2])(proof.Extend(l[:3], 2))
	wantBool(t, true)(proof.Extended(2, 3, node(x[0], x[1]), rootOf(l[:3]), []uint64{x[2]}))
	wantList[uint64](t)(proof.Extend(l[:1], 1))
	wantList[uint64](t)(proof.Extend(l, 7))
	wantList(t, x[1])(proof.Extend(l[:2], 1))
	wantList(t, x[1], x[2])(proof.Extend(l[:3], 1))
	wantList(t, x[2], x[3], node(x[0], x[1]))(proof.Extend(l[:4], 3))
	wantList(t, x[2], x[3], node(x[0], x[1]), node(node(x[4], x[5]), x[6]))(proof.Extend(l, 3))
	wantList(t, node(node(x[4], x[5]), x[6]))(proof.Extend(l, 4))
	wantList(t, node(x[4], x[5]), x[6], rootOf(l[:4]))(proof.Extend(l, 6))
}

// P7.4: all beginnings of lists of any length.
func TestExtend(t *testing.T) {
	d := dice(20)
	for n := 1; n <= 70; n++ {
		l := d.entries(n, 30)
		for m := 1; m <= n; m++ {
			wantList(t, extendOf(l, m, true)...)(proof.Extend(l, m))
		}
	}
	for _, n := range bigCounts() {
		l := d.entries(n, 10)
		for _, m := range []int{1, 2, kOf(n) - 1, kOf(n), min(kOf(n)+1, n), 1 + d.next(n), 1 + d.next(n), n - 1, n} {
			wantList(t, extendOf(l, m, true)...)(proof.Extend(l, m))
		}
	}
}

// P7.4: what is no beginning; of an empty list nothing is.
func TestExtendArg(t *testing.T) {
	for _, n := range []int{0, 1, 2, 5, 255, maxEntries} {
		l := make([][]byte, n)
		for _, m := range append(anyInts(), n+1) {
			if m < 1 || m > n {
				wantNoList[uint64](t, api.ErrArg)(proof.Extend(l, m))
			}
		}
	}
}

// P7.5: what Extend gives holds, and nothing that is a bit different.
func TestExtendedChanges(t *testing.T) {
	d := dice(21)
	for n := 1; n <= 40; n++ {
		l := d.entries(n, 20)
		root := rootOf(l)
		for m := 1; m <= n; m++ {
			old := rootOf(l[:m])
			hashes := extendOf(l, m, true)
			wantBool(t, true)(proof.Extended(m, n, old, root, hashes))
			wantBool(t, false)(proof.Extended(m, n, old+1, root, hashes))
			wantBool(t, false)(proof.Extended(m, n, old, root+1, hashes))
			wantBool(t, m == n)(proof.Extended(m, n, old, old, hashes))
			wantBool(t, m == n)(proof.Extended(m, n, root, root, hashes))
			wantBool(t, false)(proof.Extended(m, n, old, root, append(slices.Clone(hashes), 0)))
			wantBool(t, m == n)(proof.Extended(m, n, old, root, slices.Repeat(hashes, 2)))
			wantBool(t, false)(proof.Extended(m, n, old, root, append([]uint64{old}, hashes...)))
			for j := range hashes {
				other := slices.Clone(hashes)
				other[j] ^= 1 << d.next(64)
				wantBool(t, false)(proof.Extended(m, n, old, root, other))
				wantBool(t, false)(proof.Extended(m, n, old, root, hashes[:j]))
				wantBool(t, false)(proof.Extended(m, n, old, root, hashes[j+1:]))
				wantBool(t, false)(proof.Extended(m, n, old, root, slices.Delete(other, j, j+1)))
			}
		}
	}
}

// P7.5: all proofs of short lists, for all beginnings of all lists.
func TestExtendedPlaces(t *testing.T) {
	l := letters(13)
	places := func(f func(m, n int)) {
		for n := 1; n <= len(l); n++ {
			for m := 1; m <= n; m++ {
				f(m, n)
			}
		}
	}
	held := 0
	places(func(m, n int) {
		hashes, old, root := extendOf(l[:n], m, true), rootOf(l[:m]), rootOf(l[:n])
		places(func(a, b int) {
			want := isExtended(a, b, old, root, hashes)
			if want && (a != m || b != n) {
				held++
			}
			wantBool(t, want)(proof.Extended(a, b, old, root, hashes))
		})
	})
	if held == 0 {
		t.Errorf("no proof held for another place, as that of 2 in 3 does for 2 in 4")
	}
	wantBool(t, true)(proof.Extended(2, 4, rootOf(l[:2]), rootOf(l[:3]), extendOf(l[:3], 2, true)))
}

// P7.5: any hashes, with the roots that they make.
func TestExtendedAny(t *testing.T) {
	d := dice(22)
	held, missed := 0, 0
	for n := 1; n <= 20; n++ {
		for m := 1; m <= n; m++ {
			own := len(extendOf(make([][]byte, n), m, true))
			for size := range own + 3 {
				var hashes []uint64
				for range size {
					hashes = append(hashes, d.hash())
				}
				q := &queue{hashes: hashes}
				old, root := twoRootsOf(m, n, true, d.hash(), q)
				want := isExtended(m, n, old, root, hashes)
				if want != (size == own) {
					t.Fatalf("%d hashes for %d in %d", size, m, n)
				}
				if want {
					held++
				} else {
					missed++
				}
				wantBool(t, want)(proof.Extended(m, n, old, root, hashes))
				// The roots in each other's place.
				wantBool(t, isExtended(m, n, root, old, hashes))(proof.Extended(m, n, root, old, hashes))
			}
		}
	}
	if held < 200 || missed < 400 {
		t.Errorf("%d held, %d did not", held, missed)
	}
}

// P7.5: long lists.
func TestExtendedLong(t *testing.T) {
	d := dice(23)
	for _, n := range bigCounts() {
		l := d.entries(n, maxEntry)
		root := rootOf(l)
		for _, m := range []int{1, 2, kOf(n) - 1, kOf(n), min(kOf(n)+1, n), 1 + d.next(n), n - 1, n} {
			hashes := extendOf(l, m, true)
			wantBool(t, true)(proof.Extended(m, n, rootOf(l[:m]), root, hashes))
			wantBool(t, false)(proof.Extended(m, n, rootOf(l[:m-1]), root, hashes))
		}
	}
	wantBool(t, false)(proof.Extended(1, maxEntries, 0, 0, make([]uint64, 1<<16)))
	wantBool(t, false)(proof.Extended(maxEntries, maxEntries, 0, 0, make([]uint64, 1<<16)))
}

// P7.5: of all of a list, all is the beginning if the roots are the same.
func TestExtendedWhole(t *testing.T) {
	for _, n := range []int{1, 2, 3, 7, 8, maxEntries} {
		for _, root := range []uint64{0, 1, 1 << 63, 1<<64 - 1} {
			wantBool(t, true)(proof.Extended(n, n, root, root, nil))
			wantBool(t, true)(proof.Extended(n, n, root, root, []uint64{}))
			wantBool(t, false)(proof.Extended(n, n, root, root+1, nil))
			wantBool(t, false)(proof.Extended(n, n, root, root, []uint64{root}))
		}
	}
}

// P7.5: lists and beginnings that there are not.
func TestExtendedErrors(t *testing.T) {
	for _, n := range anyInts() {
		for _, m := range append(anyInts(), n-1, n, n+1) {
			for _, hashes := range [][]uint64{nil, {0}, make([]uint64, 40)} {
				if n >= 1 && n <= 4096 && m >= 1 && m <= n {
					wantBool(t, isExtended(m, n, 0, 0, hashes))(proof.Extended(m, n, 0, 0, hashes))
				} else {
					wantNo(t, api.ErrArg)(proof.Extended(m, n, 0, 0, hashes))
				}
			}
		}
	}
}
