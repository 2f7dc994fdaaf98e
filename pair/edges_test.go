package pair_test

import (
	"slices"
	"testing"

	"kimberlite/api"
	"kimberlite/pair"
)

// st makes stones of a size and a grade: four numbers each.
func st(numbers ...int) []api.Stone {
	var l []api.Stone
	for i := 0; i+3 < len(numbers); i += 4 {
		l = append(l, api.Stone{Size: numbers[i], Grade: api.Grade{numbers[i+1], numbers[i+2], numbers[i+3]}})
	}
	return l
}

// groups is stones of so many in each group, of which one is unlike another one.
func groups(sizes ...int) []api.Stone {
	var l []api.Stone
	for i, size := range sizes {
		l = append(l, slices.Repeat(st(10*i, i, 0, 11-i), size)...)
	}
	return l
}

// wantEdges fails unless Edges gave just this.
func wantEdges(t *testing.T, want []api.Edge) func([]api.Edge, api.Errno) {
	return func(got []api.Edge, e api.Errno) {
		t.Helper()
		if e != api.OK || !slices.Equal(got, want) {
			t.Fatalf("got %v, error %d; want %v", got, e, want)
		}
	}
}

// wantNoEdges fails unless Edges gave this error and nothing else.
func wantNoEdges(t *testing.T, want api.Errno) func([]api.Edge, api.Errno) {
	return func(got []api.Edge, e api.Errno) {
		t.Helper()
		if e != want || len(got) != 0 {
			t.Fatalf("got %v, error %d; want error %d and nothing else", got, e, want)
		}
	}
}

// alike is what P4.1 says of two stones.
func alike(a, b api.Stone, most int, apart api.Grade) bool {
	ok := a.Size <= b.Size+most && b.Size <= a.Size+most
	for i, n := range apart {
		ok = ok && a.Grade[i] <= b.Grade[i]+n && b.Grade[i] <= a.Grade[i]+n
	}
	return ok
}

// edgesOf is what P4.1 says of a list.
func edgesOf(l []api.Stone, most int, apart api.Grade) []api.Edge {
	return slices.DeleteFunc(every(0, len(l)), func(d api.Edge) bool { return !alike(l[d.A], l[d.B], most, apart) })
}

// P4.1: plain cases, and the order of the edges.
func TestEdges(t *testing.T) {
	l := st(30, 3, 4, 5, 31, 3, 4, 6, 33, 3, 4, 5)
	wantEdges(t, ed(0, 1, 1, 2))(pair.Edges(l, 2, api.Grade{0, 0, 1}))
	wantEdges(t, ed(0, 1))(pair.Edges(l, 1, api.Grade{0, 0, 1}))
	wantEdges(t, nil)(pair.Edges(l, 2, api.Grade{11, 11, 0}))
	wantEdges(t, ed(0, 2))(pair.Edges(l, 3, api.Grade{0, 0, 0}))
	wantEdges(t, ed(0, 1, 0, 2, 1, 2))(pair.Edges(l, 3, api.Grade{0, 0, 1}))
	wantEdges(t, nil)(pair.Edges(nil, 0, api.Grade{}))
	wantEdges(t, nil)(pair.Edges([]api.Stone{}, maxSize, api.Grade{11, 11, 11}))
	wantEdges(t, nil)(pair.Edges(st(5, 1, 2, 3), maxSize, api.Grade{11, 11, 11}))
	wantEdges(t, ed(0, 1))(pair.Edges(st(5, 1, 2, 3, 5, 1, 2, 3), 0, api.Grade{}))
	wantEdges(t, every(0, 7))(pair.Edges(groups(7), 0, api.Grade{}))
	wantEdges(t, slices.Concat(every(0, 3), every(3, 5), every(6, 8)))(pair.Edges(groups(3, 2, 1, 2), 0, api.Grade{}))
}

// P4.1: sizes and grades just at what they may differ by, and just beyond, in
// both directions.
func TestEdgesBounds(t *testing.T) {
	one := func(want bool, most int, apart api.Grade, a, b api.Stone) {
		t.Helper()
		var edges []api.Edge
		if want {
			edges = ed(0, 1)
		}
		wantEdges(t, edges)(pair.Edges([]api.Stone{a, b}, most, apart))
		wantEdges(t, edges)(pair.Edges([]api.Stone{b, a}, most, apart))
	}
	for _, most := range []int{0, 1, 2, 1000, maxSize - 1, maxSize} {
		for _, low := range []int{0, 1, 500, maxSize - most} {
			for by := max(0, most-1); by <= most+1; by++ {
				if high := low + by; 0 <= low && high <= maxSize {
					one(by <= most, most, api.Grade{}, api.Stone{Size: low}, api.Stone{Size: high})
				}
			}
		}
	}
	for place := range 3 {
		for n := range api.MaxLevel + 1 {
			for low := range api.MaxLevel + 1 {
				for high := low; high <= api.MaxLevel; high++ {
					a := api.Stone{Size: 7, Grade: api.Grade{4, 4, 4}}
					b, apart := a, api.Grade{}
					a.Grade[place], b.Grade[place], apart[place] = low, high, n
					one(high-low <= n, 0, apart, a, b)
				}
			}
		}
	}
}

// P4.1: against the chapter's words, on many lists; what it returns is a graph.
func TestEdgesOfLists(t *testing.T) {
	d := dice(3)
	for range 10000 {
		l := make([]api.Stone, d.next(maxNodes+1))
		step, levels := 1+d.next(2)*d.next(maxSize/10), 1+d.next(api.MaxLevel+1)
		for i := range l {
			l[i] = api.Stone{Size: d.next(10) * step, Grade: api.Grade{d.next(levels), d.next(levels), d.next(levels)}}
		}
		most := max(0, d.next(10)*step-d.next(2))
		apart := api.Grade{d.next(levels), d.next(levels), d.next(levels)}
		want := edgesOf(l, most, apart)
		if len(want) > maxEdges {
			wantNoEdges(t, api.ErrFull)(pair.Edges(l, most, apart))
			continue
		}
		wantEdges(t, want)(pair.Edges(l, most, apart))
		if _, e := pair.Short(len(l), want); e != api.OK {
			t.Fatalf("%v is no graph: error %d", want, e)
		}
	}
}

// P4.1: 128 pairs, and 129.
func TestEdgesFull(t *testing.T) {
	wantEdges(t, full())(pair.Edges(groups(16, 4, 2, 2), 0, api.Grade{}))
	wantNoEdges(t, api.ErrFull)(pair.Edges(groups(16, 4, 3), 0, api.Grade{}))
	wantNoEdges(t, api.ErrFull)(pair.Edges(groups(16, 4, 3, 1), 0, api.Grade{}))
	wantNoEdges(t, api.ErrFull)(pair.Edges(groups(24), 0, api.Grade{}))
	wantNoEdges(t, api.ErrFull)(pair.Edges(groups(5, 19), 0, api.Grade{}))
	wantEdges(t, every(0, 16))(pair.Edges(groups(16, 1, 1, 1, 1, 1, 1, 1, 1), 0, api.Grade{}))
	wantNoEdges(t, api.ErrFull)(pair.Edges(groups(17), 0, api.Grade{}))
}

// P4.1: 24 stones and 25, each limit, and which error comes first.
func TestEdgesErrors(t *testing.T) {
	apart := api.Grade{1, 2, 3}
	many := slices.Repeat(st(0, 0, 0, 0, maxSize, 11, 11, 11), maxNodes/2)
	wantNoEdges(t, api.ErrFull)(pair.Edges(many, maxSize, api.Grade{11, 11, 11}))
	apartOnes := groups(1, 1, 1, 1, 1, 1, 1, 1, 1, 1, 1, 1)
	wantEdges(t, nil)(pair.Edges(apartOnes, 9, apart))
	wantNoEdges(t, api.ErrLimit)(pair.Edges(append(slices.Clone(many), many[0]), 0, apart))
	wantNoEdges(t, api.ErrLimit)(pair.Edges(slices.Repeat(st(-1, -1, 12, maxInt), maxNodes+1), -1, api.Grade{-1, 12, minInt}))
	for _, most := range []int{-1, maxSize + 1, minInt, maxInt} {
		wantNoEdges(t, api.ErrArg)(pair.Edges(nil, most, apart))
		wantNoEdges(t, api.ErrArg)(pair.Edges(apartOnes, most, apart))
		wantNoEdges(t, api.ErrArg)(pair.Edges(many, most, api.Grade{11, 11, 11}))
		wantNoEdges(t, api.ErrLimit)(pair.Edges(groups(25), most, apart))
		for i := range maxNodes {
			l := slices.Clone(many)
			l[i].Size = most
			wantNoEdges(t, api.ErrArg)(pair.Edges(l, maxSize, api.Grade{11, 11, 11}))
			wantNoEdges(t, api.ErrArg)(pair.Edges(l[:i+1], 0, api.Grade{}))
			wantNoEdges(t, api.ErrArg)(pair.Edges(l[i:], 0, api.Grade{}))
		}
	}
	for place := range 3 {
		for _, n := range []int{-1, api.MaxLevel + 1, minInt, maxInt} {
			bad := apart
			bad[place] = n
			wantNoEdges(t, api.ErrArg)(pair.Edges(nil, 0, bad))
			wantNoEdges(t, api.ErrArg)(pair.Edges(apartOnes, 9, bad))
			wantNoEdges(t, api.ErrLimit)(pair.Edges(groups(25), 9, bad))
			for i := range maxNodes {
				l := slices.Clone(many)
				l[i].Grade[place] = n
				wantNoEdges(t, api.ErrArg)(pair.Edges(l, maxSize, api.Grade{11, 11, 11}))
				wantNoEdges(t, api.ErrArg)(pair.Edges(l[i:], 0, api.Grade{}))
			}
		}
	}
	wantEdges(t, ed(0, 1))(pair.Edges(st(0, 0, 0, 0, maxSize, 11, 11, 11), maxSize, api.Grade{11, 11, 11}))
	wantEdges(t, nil)(pair.Edges(st(0, 0, 0, 0, maxSize, 11, 11, 11), maxSize-1, api.Grade{11, 11, 11}))
}
