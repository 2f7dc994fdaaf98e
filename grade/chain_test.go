package grade_test

import (
	"math/bits"
	"slices"
	"testing"

	"kimberlite/api"
	"kimberlite/grade"
)

// before reports whether stone i of l comes before stone j.
func before(l []api.Grade, i, j int) bool {
	if l[i] == l[j] {
		return i < j
	}
	return below(l[i], l[j])
}

// apart reports whether of the stones none comes before another one.
func apart(l []api.Grade, stones []int) bool {
	for _, i := range stones {
		for _, j := range stones {
			if before(l, i, j) {
				return false
			}
		}
	}
	return true
}

// indexes are the bits of a set.
func indexes(set int) []int {
	var l []int
	for i := range bits.Len(uint(set)) {
		if set>>i&1 == 1 {
			l = append(l, i)
		}
	}
	return l
}

// widest is every set of stones that are apart, of the greatest number.
func widest(l []api.Grade) [][]int {
	var best [][]int
	most := 0
	for set := range 1 << len(l) {
		n := bits.OnesCount(uint(set))
		if n < most || !apart(l, indexes(set)) {
			continue
		}
		if n > most {
			most, best = n, nil
		}
		best = append(best, indexes(set))
	}
	return best
}

// covers reports whether each of the stones is in top or comes before one of it.
func covers(l []api.Grade, top, stones []int) bool {
	for _, i := range stones {
		if !slices.ContainsFunc(top, func(j int) bool { return i == j || before(l, i, j) }) {
			return false
		}
	}
	return true
}

// last is the one set that P2.7 chooses of several.
func last(t *testing.T, l []api.Grade) []int {
	t.Helper()
	var found [][]int
	all := widest(l)
	for _, s := range all {
		if !slices.ContainsFunc(all, func(other []int) bool { return !covers(l, s, other) }) {
			found = append(found, s)
		}
	}
	if len(found) != 1 {
		t.Fatalf("%v: %v could be chosen", l, found)
	}
	return found[0]
}

// wantWidth fails unless Width gave just this.
func wantWidth(t *testing.T, want ...int) func(int, []int, api.Errno) {
	return func(n int, got []int, e api.Errno) {
		t.Helper()
		if e != api.OK || n != len(want) || !slices.Equal(got, want) {
			t.Fatalf("got %d, %v, error %d; want %v", n, got, e, want)
		}
	}
}

// wantNoWidth fails unless Width gave this error and nothing else.
func wantNoWidth(t *testing.T, want api.Errno) func(int, []int, api.Errno) {
	return func(n int, got []int, e api.Errno) {
		t.Helper()
		if e != want || n != 0 || len(got) != 0 {
			t.Fatalf("got %d, %v, error %d; want error %d and nothing else", n, got, e, want)
		}
	}
}

// wantChains fails unless Chains gave a partition into just so many chains.
func wantChains(t *testing.T, l []api.Grade, want int) {
	t.Helper()
	chains, n, e := grade.Chains(l)
	if e != api.OK || n != want || len(chains) != len(l) {
		t.Fatalf("%v: %v, %d chains, error %d; want %d", l, chains, n, e, want)
	}
	used := map[int]bool{}
	for i, c := range chains {
		if c < 0 || c >= n {
			t.Fatalf("%v: %v is of %d chains", l, chains, n)
		}
		used[c] = true
		for j := range i {
			if chains[j] == c && !before(l, i, j) && !before(l, j, i) {
				t.Fatalf("%v: of %v the stones %d and %d are apart", l, chains, j, i)
			}
		}
	}
	if len(used) != n {
		t.Fatalf("%v: %v uses %d of %d chains", l, chains, len(used), n)
	}
}

// P2.7: plain cases, equal grades, and the last of several sets.
func TestWidthAndChains(t *testing.T) {
	for _, c := range []struct{ l, width []int }{
		{nil, nil},
		{[]int{}, nil},
		{[]int{5, 5, 5}, []int{0}},
		{[]int{0, 0, 1, 0, 1, 0, 0, 1, 1}, []int{0, 1}},
		{[]int{0, 0, 1, 0, 1, 0, 0, 1, 1, 0, 1, 1}, []int{0, 1}},
		{[]int{0, 1, 1, 0, 1, 1}, []int{1}},
		{[]int{0, 0, 0, 11, 11, 11}, []int{1}},
		{[]int{11, 11, 11, 0, 0, 0}, []int{0}},
		{[]int{11, 11, 11, 0, 0, 0, 11, 11, 11}, []int{2}},
		{[]int{4, 0, 0, 0, 4, 0, 0, 0, 4}, []int{0, 1, 2}},
		// Two layers of two: the upper one is chosen; wherever it stands.
		{[]int{0, 1, 0, 1, 0, 0, 1, 2, 0, 2, 1, 0}, []int{2, 3}},
		{[]int{1, 2, 0, 2, 1, 0, 0, 1, 0, 1, 0, 0}, []int{0, 1}},
		// Only one of the two chains goes on upward.
		{[]int{0, 1, 0, 1, 0, 0, 2, 0, 0}, []int{0, 2}},
		{[]int{0, 1, 0, 1, 0, 0, 2, 0, 0, 2, 1, 0}, []int{0, 2}},
		// Equal grades: the ones with the greatest indexes are the last ones.
		{[]int{1, 0, 0, 0, 1, 0, 1, 0, 0, 0, 1, 0, 1, 0, 0}, []int{3, 4}},
		// One stone over two, and two over one.
		{[]int{0, 1, 0, 1, 0, 0, 1, 1, 0}, []int{0, 1}},
		{[]int{0, 0, 0, 1, 0, 0, 0, 1, 0}, []int{1, 2}},
	} {
		l := gr(c.l...)
		wantWidth(t, c.width...)(grade.Width(l))
		wantChains(t, l, len(c.width))
	}
}

// P2.7: where there is only one chain, or only chains of one stone, the answer is not open.
func TestOnlyChains(t *testing.T) {
	wantFit(t, 0)(grade.Chains(nil))
	wantFit(t, 1, 0)(grade.Chains(gr(3, 3, 3)))
	wantFit(t, 1, 0, 0, 0)(grade.Chains(gr(3, 3, 3, 1, 1, 1, 3, 3, 3)))
	one := slices.Repeat(gr(7, 0, 11), api.MaxStones)
	wantWidth(t, api.MaxStones-1)(grade.Width(one))
	wantFit(t, 1, make([]int, api.MaxStones)...)(grade.Chains(one))
	each := layer(16)[20 : 20+api.MaxStones]
	var all []int
	for i := range each {
		all = append(all, i)
	}
	wantWidth(t, all...)(grade.Width(each))
	wantChains(t, each, api.MaxStones)
}

// P2.7, P2.11: against the chapter's own words, on all short lists of the grades
// of a cube and of a square.
func TestSmallLists(t *testing.T) {
	try := func(corners []api.Grade, length int) {
		var grow func(l []api.Grade)
		grow = func(l []api.Grade) {
			want := last(t, l)
			wantWidth(t, want...)(grade.Width(l))
			wantChains(t, l, len(want))
			if len(l) == length {
				return
			}
			for _, g := range corners {
				grow(append(slices.Clone(l), g))
			}
		}
		grow(nil)
	}
	try(box(0, 11), 4)
	try(gr(3, 3, 0, 3, 4, 0, 4, 3, 0, 4, 4, 0), 5)
	try(gr(0, 0, 2, 0, 1, 1, 0, 2, 0), 5)
	try(gr(0, 1, 5, 1, 0, 5, 2, 0, 5, 1, 2, 5, 0, 3, 5), 4)
}

// P2.7, P2.11: the same on some lists of up to 10 stones.
func TestSomeLists(t *testing.T) {
	d := dice(8)
	for range 600 {
		l := d.grades(10, 2+d.next(4), 1)
		want := last(t, l)
		wantWidth(t, want...)(grade.Width(l))
		wantChains(t, l, len(want))
	}
}

// P2.7, P2.11: lists of up to 32 stones: as many chains as stones apart, so there
// are no fewer of the former and no more of the latter; and no later stones.
func TestLongLists(t *testing.T) {
	d := dice(9)
	for i := range 300 {
		l := d.grades(api.MaxStones, 2+d.next(9), 1)
		if i%3 == 0 {
			for k := range l {
				l[k][2] = 0
			}
		}
		n, stones, e := grade.Width(l)
		if e != api.OK || n != len(stones) || !slices.IsSorted(stones) || !apart(l, stones) {
			t.Fatalf("%v: %d, %v, error %d", l, n, stones, e)
		}
		wantChains(t, l, n)
		for k := range l {
			if !covers(l, stones, []int{k}) && 1+widthBeside(t, l, k) >= n {
				t.Fatalf("%v: %v, but stone %d is in such a set, too", l, stones, k)
			}
		}
	}
}

// widthBeside is the greatest number of stones that are apart, and apart from stone k.
func widthBeside(t *testing.T, l []api.Grade, k int) int {
	t.Helper()
	var beside []api.Grade
	for i, g := range l {
		if i != k && !before(l, i, k) && !before(l, k, i) {
			beside = append(beside, g)
		}
	}
	n, _, e := grade.Width(beside)
	if e != api.OK {
		t.Fatal(e)
	}
	wantChains(t, beside, n)
	return n
}

// P2.7: which error comes first, and that 32 stones are allowed.
func TestStoneErrors(t *testing.T) {
	full := slices.Repeat(gr(0, 0, 0, 11, 11, 11), api.MaxStones/2)
	wantWidth(t, api.MaxStones-1)(grade.Width(full))
	wantChains(t, full, 1)
	check := func(want api.Errno, l []api.Grade) {
		t.Helper()
		wantNoWidth(t, want)(grade.Width(l))
		wantNoFit(t, want)(grade.Chains(l))
	}
	check(api.ErrLimit, append(slices.Clone(full), api.Grade{}))
	check(api.ErrLimit, allGrades())
	for _, bad := range notValid() {
		check(api.ErrArg, []api.Grade{bad})
		check(api.ErrArg, []api.Grade{bad, {1, 1, 1}})
		check(api.ErrArg, append(slices.Clone(full[1:]), bad))
		check(api.ErrLimit, append(slices.Clone(full), bad))
		check(api.ErrLimit, slices.Repeat([]api.Grade{bad}, api.MaxStones+1))
	}
}
