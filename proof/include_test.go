package proof_test

import (
	"slices"
	"testing"

	"kimberlite/api"
	"kimberlite/proof"
)

// The chapter's second example, and DOC.md's: the last of three is proven by one step.
func TestIncludeExample(t *testing.T) {
	l := texts("a", "b", "c")
	a, b, c := proof.Leaf(l[0]), proof.Leaf(l[1]), proof.Leaf(l[2])
	wantHash(t, proof.Node(proof.Node(a, b), c))(proof.Root(l))
	wantList(t, api.Step{Hash: proof.Node(a, b), Left: true})(proof.Include(l, 2))
	wantList(t, api.Step{Hash: b}, api.Step{Hash: c})(proof.Include(l, 0))
	wantList(t, api.Step{Hash: a, Left: true}, api.Step{Hash: c})(proof.Include(l, 1))
	wantList[api.Step](t)(proof.Include(l[:1], 0))
}

// P7.2: each entry of lists of any length.
func TestInclude(t *testing.T) {
	d := dice(10)
	for n := 1; n <= 70; n++ {
		l := d.entries(n, 30)
		for i := range n {
			wantList(t, includeOf(l, i)...)(proof.Include(l, i))
		}
	}
	for _, n := range bigCounts() {
		l := d.entries(n, 10)
		for _, i := range []int{0, 1, n / 2, d.next(n), d.next(n), n - 2, n - 1} {
			wantList(t, includeOf(l, i)...)(proof.Include(l, i))
		}
	}
}

// P7.2: indexes of no entry.
func TestIncludeNone(t *testing.T) {
	for _, n := range []int{0, 1, 2, 5, 255, maxEntries} {
		l := make([][]byte, n)
		for _, i := range append(anyInts(), n, n+1) {
			if i < 0 || i >= n {
				wantNoList[api.Step](t, api.ErrNone)(proof.Include(l, i))
			}
		}
	}
}

// P7.2: any entry and any steps, whether they prove something or not.
func TestFollow(t *testing.T) {
	d := dice(11)
	for size := range 200 {
		entry := d.entry(maxEntry + 50)
		var steps []api.Step
		for range size {
			steps = append(steps, api.Step{Hash: d.hash() >> d.next(64), Left: d.next(2) == 0})
		}
		if got, want := proof.Follow(entry, steps), followOf(entry, steps); got != want {
			t.Fatalf("Follow of %d steps: %d; want %d", size, got, want)
		}
	}
	if got := proof.Follow(nil, nil); got != proof.Leaf(nil) {
		t.Errorf("Follow of nothing is %d", got)
	}
	many := slices.Repeat([]api.Step{{Hash: 1}, {Hash: 2, Left: true}}, 1<<15)
	if got, want := proof.Follow([]byte("x"), many), followOf([]byte("x"), many); got != want {
		t.Errorf("Follow of many steps is %d; want %d", got, want)
	}
}

// P7.3: what Include gives holds, and nothing that is a bit different.
func TestIncludedChanges(t *testing.T) {
	d := dice(12)
	for n := 1; n <= 40; n++ {
		l := d.entries(n, 20)
		root := rootOf(l)
		for i, entry := range l {
			steps := includeOf(l, i)
			wantBool(t, true)(proof.Included(entry, i, n, root, steps))
			wantBool(t, false)(proof.Included(entry, i, n, root+1, steps))
			wantBool(t, false)(proof.Included(entry, i, n, 0, steps))
			wantBool(t, false)(proof.Included(append(slices.Clone(entry), 0), i, n, root, steps))
			wantBool(t, false)(proof.Included(entry, i, n, root, append(slices.Clone(steps), api.Step{})))
			wantBool(t, false)(proof.Included(entry, i, n, root, append([]api.Step{{}}, steps...)))
			for j := range steps {
				other := slices.Clone(steps)
				other[j].Left = !other[j].Left
				wantBool(t, false)(proof.Included(entry, i, n, root, other))
				wantBool(t, false)(proof.Included(entry, i, n, followOf(entry, other), other))
				other = slices.Clone(steps)
				other[j].Hash ^= 1 << d.next(64)
				wantBool(t, false)(proof.Included(entry, i, n, root, other))
				wantBool(t, true)(proof.Included(entry, i, n, followOf(entry, other), other))
				wantBool(t, false)(proof.Included(entry, i, n, followOf(entry, steps[:j]), steps[:j]))
				wantBool(t, false)(proof.Included(entry, i, n, root, slices.Delete(other, j, j+1)))
			}
		}
	}
}

// P7.3: all proofs of short lists, for each place of each list: only how many steps
// there are, and their Lefts, tell whether they are of that place.
func TestIncludedPlaces(t *testing.T) {
	l := letters(13)
	places := func(f func(i, n int)) {
		for n := 1; n <= len(l); n++ {
			for i := range n {
				f(i, n)
			}
		}
	}
	held := 0
	places(func(i, n int) {
		steps, root := includeOf(l[:n], i), rootOf(l[:n])
		places(func(j, m int) {
			want := isIncluded(l[i], j, m, root, steps)
			if want && (i != j || n != m) {
				held++
			}
			wantBool(t, want)(proof.Included(l[i], j, m, root, steps))
		})
	})
	if held == 0 {
		t.Errorf("no proof held for another place, as that of 0 in 3 does for 0 in 4")
	}
	wantBool(t, true)(proof.Included(l[0], 0, 4, rootOf(l[:3]), includeOf(l[:3], 0)))
	wantBool(t, false)(proof.Included(l[2], 2, 4, rootOf(l[:3]), includeOf(l[:3], 2)))
}

// P7.3: steps that lead to the root, but are not those of the place.
func TestIncludedLeads(t *testing.T) {
	d := dice(13)
	for n := 1; n <= 20; n++ {
		for i := range n {
			lefts := includeOf(make([][]byte, n), i)
			entry := d.entry(40)
			for size := range len(lefts) + 3 {
				for range 8 {
					var steps []api.Step
					for range size {
						steps = append(steps, api.Step{Hash: d.hash(), Left: d.next(2) == 0})
					}
					for j := range min(size, len(lefts)) {
						if d.next(4) > 0 {
							steps[j].Left = lefts[j].Left
						}
					}
					root := followOf(entry, steps)
					wantBool(t, isIncluded(entry, i, n, root, steps))(proof.Included(entry, i, n, root, steps))
				}
			}
		}
	}
}

// P7.3: long lists.
func TestIncludedLong(t *testing.T) {
	d := dice(14)
	for _, n := range bigCounts() {
		l := d.entries(n, maxEntry)
		root := rootOf(l)
		for _, i := range []int{0, 1, n / 2, d.next(n), n - 2, n - 1} {
			steps := includeOf(l, i)
			wantBool(t, true)(proof.Included(l[i], i, n, root, steps))
			wantBool(t, isIncluded(l[i], (i+1)%n, n, root, steps))(proof.Included(l[i], (i+1)%n, n, root, steps))
			wantBool(t, false)(proof.Included(l[i], i, n, root^1<<63, steps))
		}
	}
	wantBool(t, false)(proof.Included(nil, 0, maxEntries, 0, make([]api.Step, 1<<16)))
	most := make([]byte, maxEntry)
	wantBool(t, true)(proof.Included(most, 0, 1, leafOf(most), nil))
}

// P7.3: places that there are not, and then entries that are too long.
func TestIncludedErrors(t *testing.T) {
	long := make([]byte, maxEntry+1)
	for _, n := range anyInts() {
		for _, i := range append(anyInts(), n-1, n) {
			good := n >= 1 && n <= 4096 && i >= 0 && i < n
			for _, entry := range [][]byte{nil, {1}, long} {
				for _, steps := range [][]api.Step{nil, make([]api.Step, 3), make([]api.Step, 40)} {
					root := followOf(entry, steps)
					switch {
					case !good:
						wantNo(t, api.ErrArg)(proof.Included(entry, i, n, root, steps))
					case len(entry) > maxEntry:
						wantNo(t, api.ErrLimit)(proof.Included(entry, i, n, root, steps))
					default:
						wantBool(t, isIncluded(entry, i, n, root, steps))(proof.Included(entry, i, n, root, steps))
					}
				}
			}
		}
	}
}
