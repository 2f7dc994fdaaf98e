package proof_test

import (
	"bytes"
	"slices"
	"testing"

	"kimberlite/api"
	"kimberlite/proof"
)

// accuse calls Accuse with two ways.
func accuse(i, n int, w twoWays) (api.Blame, api.Errno) {
	return proof.Accuse(i, n, w.one, w.oneSteps, w.two, w.twoSteps)
}

// swapped is two ways in each other's place.
func (w twoWays) swapped() twoWays {
	return twoWays{w.two, w.one, w.twoSteps, w.oneSteps}
}

// stringsOf is the byte strings that are mixed on a way, from below.
func stringsOf(entry []byte, steps []api.Step) [][]byte {
	l := [][]byte{append([]byte{0}, entry...)}
	for _, s := range steps {
		l = append(l, stepString(hashOf(l[len(l)-1]), s))
	}
	return l
}

// wantBlame fails unless Accuse names just these strings of two ways, which are both
// proofs.
func wantBlame(t *testing.T, i, n int, w twoWays, level int) {
	t.Helper()
	root := followOf(w.one, w.oneSteps)
	wantBool(t, true)(proof.Included(w.one, i, n, root, w.oneSteps))
	wantBool(t, true)(proof.Included(w.two, i, n, root, w.twoSteps))
	b, e := accuse(i, n, w)
	if e != api.OK || bytes.Equal(b.One, b.Two) || hashOf(b.One) != hashOf(b.Two) {
		t.Fatalf("%d of %d: %v and %v, error %d", i, n, b.One, b.Two, e)
	}
	one, two := stringsOf(w.one, w.oneSteps)[level], stringsOf(w.two, w.twoSteps)[level]
	if !bytes.Equal(b.One, one) || !bytes.Equal(b.Two, two) {
		t.Fatalf("%d of %d: %v and %v; want %v and %v", i, n, b.One, b.Two, one, two)
	}
}

// wantNoBlame fails unless Accuse gives this error, and nothing else.
func wantNoBlame(t *testing.T, want api.Errno) func(api.Blame, api.Errno) {
	return func(b api.Blame, e api.Errno) {
		t.Helper()
		if len(b.One) != 0 || len(b.Two) != 0 || e != want {
			t.Fatalf("%v and %v, error %d; want error %d", b.One, b.Two, e, want)
		}
	}
}

func leftsOf(i, n int) []bool {
	var l []bool
	for _, s := range includeOf(make([][]byte, n), i) {
		l = append(l, s.Left)
	}
	return l
}

// P7.6: leaves that collide.
func TestAccuseLeaves(t *testing.T) {
	d := dice(30)
	for _, entry := range texts("", "a", "\x00", "a stone of 30 points") {
		two := d.twinOf(entry)
		w := twoWays{one: entry, two: two}
		wantBlame(t, 0, 1, w, 0)
		b, _ := accuse(0, 1, w)
		if !bytes.Equal(b.One, append([]byte{0}, entry...)) || !bytes.Equal(b.Two, append([]byte{0}, two...)) {
			t.Fatalf("%v and %v are blamed for %v and %v", b.One, b.Two, entry, two)
		}
		// The steps of one list prove both.
		l := append(letters(5), entry)
		w.oneSteps = includeOf(l, 5)
		w.twoSteps = w.oneSteps
		wantBlame(t, 5, 6, w, 0)
		wantBlame(t, 5, 6, w.swapped(), 0)
	}
}

// P7.6: in all places of short lists, ways that meet at one level, and above it
// nowhere, but at the root.
func TestAccuseLevels(t *testing.T) {
	d := dice(31)
	for n := 1; n <= 9; n++ {
		for i := range n {
			lefts := leftsOf(i, n)
			top := len(lefts)
			for level := range top + 1 {
				meets := make([]bool, top+1)
				meets[level], meets[top] = true, true
				w := d.collide(lefts, meets)
				wantBlame(t, i, n, w, level)
				wantBlame(t, i, n, w.swapped(), level)
			}
		}
	}
}

// P7.6: ways that go together once they have met.
func TestAccuseTogether(t *testing.T) {
	d := dice(32)
	for _, n := range []int{2, 3, 5, 8, 100, maxEntries} {
		for _, i := range []int{0, n / 2, n - 1} {
			lefts := leftsOf(i, n)
			for level := range len(lefts) + 1 {
				meets := make([]bool, level+1)
				meets[level] = true
				w := d.collide(lefts[:level], meets)
				for _, left := range lefts[level:] {
					s := api.Step{Hash: d.hash(), Left: left}
					w.oneSteps, w.twoSteps = append(w.oneSteps, s), append(w.twoSteps, s)
				}
				wantBlame(t, i, n, w, level)
			}
		}
	}
}

// P7.6: ways that meet and part again.
func TestAccuseAgain(t *testing.T) {
	d := dice(33)
	for range 60 {
		n := 2 + d.next(40)
		i := d.next(n)
		lefts := leftsOf(i, n)
		meets := make([]bool, len(lefts)+1)
		for level := range meets {
			meets[level] = d.next(2) == 0
		}
		meets[len(lefts)] = true
		wantBlame(t, i, n, d.collide(lefts, meets), slices.Index(meets, true))
	}
}

// P7.6: entries as long as they may be.
func TestAccuseLong(t *testing.T) {
	d := dice(34)
	one := bytes.Repeat([]byte{7}, maxEntry)
	for {
		two := append([]byte{0}, bytes.Repeat([]byte{byte(d.hash())}, maxEntry-8)...)
		two[1], two[2] = byte(d.hash()), byte(d.hash())
		b, ok := reach(two, nil, leafOf(one))
		if ok {
			wantBlame(t, 0, 1, twoWays{one: one, two: append(two, b...)[1:]}, 0)
			wantNoBlame(t, api.ErrLimit)(proof.Accuse(0, 1, one, nil, append(two, append(b, 1)...)[1:], nil))
			return
		}
	}
}

// P7.6: two entries that nobody is to blame for.
func TestAccuseProof(t *testing.T) {
	d := dice(35)
	for n := 1; n <= 9; n++ {
		for i := range n {
			lefts := leftsOf(i, n)
			meets := make([]bool, len(lefts)+1)
			meets[len(lefts)] = true
			good := d.collide(lefts, meets)
			wantBlame(t, i, n, good, len(lefts))
			refuse := func(w twoWays) {
				t.Helper()
				wantNoBlame(t, api.ErrProof)(accuse(i, n, w))
				wantNoBlame(t, api.ErrProof)(accuse(i, n, w.swapped()))
			}
			// Equal entries, with steps that are the same, and that are not.
			refuse(twoWays{good.one, good.one, good.oneSteps, good.oneSteps})
			if len(lefts) > 0 {
				w := good
				w.two = w.one
				before := len(lefts) - 1
				one, two := followOf(w.one, w.oneSteps[:before]), followOf(w.two, w.twoSteps[:before])
				oneStep, twoStep := d.twinStep(one, two, lefts[before])
				w.oneSteps = append(slices.Clone(w.oneSteps[:before]), oneStep)
				w.twoSteps = append(slices.Clone(w.twoSteps[:before]), twoStep)
				if followOf(w.one, w.oneSteps) != followOf(w.two, w.twoSteps) {
					t.Fatalf("no collision of equal entries")
				}
				refuse(w)
			}
			// Different hashes at the root.
			w := good
			w.one = d.otherThan(w.one)
			refuse(w)
			// A step too many, though the hash is the same.
			s := api.Step{Hash: 5}
			w = good
			w.oneSteps, w.twoSteps = append(slices.Clone(w.oneSteps), s), append(slices.Clone(w.twoSteps), s)
			refuse(w)
			w = good
			w.oneSteps = append(slices.Clone(w.oneSteps), s)
			refuse(w)
			for j := range lefts {
				w := good
				w.oneSteps, w.twoSteps = slices.Clone(w.oneSteps), slices.Clone(w.twoSteps)
				w.oneSteps[j].Left = !w.oneSteps[j].Left
				refuse(w)
				w.twoSteps[j].Left = !w.twoSteps[j].Left
				refuse(w)
				w = good
				w.oneSteps = w.oneSteps[:j]
				refuse(w)
				w.twoSteps = w.twoSteps[:j]
				refuse(w)
			}
		}
	}
}

// P7.6: ways with the Lefts of another place, that meet: nobody proves anything.
func TestAccuseLefts(t *testing.T) {
	d := dice(36)
	for _, flip := range []int{0, 1, 2} {
		lefts := leftsOf(5, 8)
		lefts[flip] = !lefts[flip]
		w := d.collide(lefts, []bool{false, false, false, true})
		wantNoBlame(t, api.ErrProof)(accuse(5, 8, w))
		wantNoBlame(t, api.ErrProof)(accuse(5, 8, w.swapped()))
		wantBlame(t, 5^1<<flip, 8, w, 3)
	}
	// Two entries side by side have one root, each by its own Lefts.
	l := texts("a", "b")
	w := twoWays{l[0], l[1], includeOf(l, 0), includeOf(l, 1)}
	wantNoBlame(t, api.ErrProof)(accuse(0, 2, w))
	wantNoBlame(t, api.ErrProof)(accuse(1, 2, w))
}

// P7.6: places that there are not, then entries that are too long, then proofs.
func TestAccuseErrors(t *testing.T) {
	long, d := make([]byte, maxEntry+1), dice(37)
	good := twoWays{one: []byte("x"), two: d.twinOf([]byte("x"))}
	for _, n := range anyInts() {
		for _, i := range append(anyInts(), n-1, n) {
			if n >= 1 && n <= 4096 && i >= 0 && i < n {
				continue
			}
			wantNoBlame(t, api.ErrArg)(accuse(i, n, good))
			wantNoBlame(t, api.ErrArg)(accuse(i, n, twoWays{}))
			wantNoBlame(t, api.ErrArg)(accuse(i, n, twoWays{one: long, two: long, oneSteps: make([]api.Step, 40)}))
		}
	}
	twin := d.twinOf(long)
	for _, w := range []twoWays{{one: long}, {one: long, two: long}, {one: long, two: twin}, {one: long, oneSteps: make([]api.Step, 40)}} {
		for _, n := range []int{1, 2, maxEntries} {
			wantNoBlame(t, api.ErrLimit)(accuse(0, n, w))
			wantNoBlame(t, api.ErrLimit)(accuse(n-1, n, w.swapped()))
		}
	}
	wantNoBlame(t, api.ErrProof)(accuse(0, 1, twoWays{}))
	wantNoBlame(t, api.ErrProof)(accuse(0, 1, twoWays{one: []byte{}}))
	wantNoBlame(t, api.ErrProof)(accuse(0, 1, twoWays{one: []byte("a"), two: []byte("b")}))
	wantNoBlame(t, api.ErrProof)(accuse(0, 2, good))
	wantBlame(t, 0, 1, good, 0)
}
