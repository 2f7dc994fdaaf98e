package span_test

import (
	"slices"
	"testing"

	"kimberlite/api"
	"kimberlite/span"
)

const (
	bound = api.MaxBound
	// window is how many numbers the small models look at.
	window = 7
)

// bases are where the windows begin: at the lower end of the whole, around 0,
// and up to the upper end.
func bases() []int { return []int{-bound, -3, bound - window} }

// sp makes a list of spans of the ends Lo, Hi, Lo, Hi and so on.
func sp(ends ...int) []api.Span {
	var l []api.Span
	for i := 0; i+1 < len(ends); i += 2 {
		l = append(l, api.Span{Lo: ends[i], Hi: ends[i+1]})
	}
	return l
}

// comb is n spans of the given width, the first at first, one every step numbers.
func comb(n, first, width, step int) []api.Span {
	var l []api.Span
	for i := range n {
		l = append(l, api.Span{Lo: first + i*step, Hi: first + i*step + width})
	}
	return l
}

// listed is the set of the numbers from lo to hi - 1 that has tells, and, if
// outside, of all numbers of the whole below lo and from hi on.
func listed(lo, hi int, outside bool, has func(int) bool) []api.Span {
	var out []api.Span
	add := func(from, to int) {
		from, to = max(from, -bound), min(to, bound)
		if from >= to {
			return
		}
		if n := len(out); n > 0 && out[n-1].Hi == from {
			out[n-1].Hi = to
			return
		}
		out = append(out, api.Span{Lo: from, Hi: to})
	}
	if outside {
		add(-bound, lo)
	}
	for x := max(lo, -bound); x < min(hi, bound); x++ {
		if has(x) {
			add(x, x+1)
		}
	}
	if outside {
		add(hi, bound)
	}
	return out
}

// member tells the numbers of a window whose bits mask has, and those outside
// the window if outside.
func member(base, mask int, outside bool) func(int) bool {
	return func(x int) bool {
		if x < base || x >= base+window {
			return outside
		}
		return mask>>(x-base)&1 == 1
	}
}

// masked is the set of the numbers that member tells.
func masked(base, mask int, outside bool) []api.Span {
	return listed(base, base+window, outside, member(base, mask, outside))
}

// notSets are lists that are no sets, with what is wrong with them.
func notSets() map[string][]api.Span {
	return map[string][]api.Span{
		"empty span":         sp(3, 3),
		"reversed span":      sp(4, 3),
		"below the whole":    sp(-bound-1, 0),
		"above the whole":    sp(0, bound+1),
		"any ints":           sp(minInt, maxInt),
		"any ints, reversed": sp(maxInt, minInt),
		"zero span":          sp(0, 0),
		"touching":           sp(1, 3, 3, 5),
		"overlapping":        sp(1, 4, 3, 5),
		"twice":              sp(1, 3, 1, 3),
		"descending":         sp(5, 7, 1, 3),
		"second not valid":   sp(1, 3, 5, 5),
		"too many":           comb(api.MaxSpans+1, 0, 1, 2),
	}
}

// notValid are spans that are not valid.
func notValid() []api.Span {
	return sp(3, 3, 4, 3, -bound-1, 0, 0, bound+1, minInt, maxInt, maxInt, minInt, -bound, -bound, bound, bound, 0, 0)
}

const (
	maxInt = int(^uint(0) >> 1)
	minInt = -maxInt - 1
)

// wantSet fails unless the call gave just this set.
func wantSet(t *testing.T, want []api.Span) func([]api.Span, api.Errno) {
	return func(got []api.Span, e api.Errno) {
		t.Helper()
		if e != api.OK || !slices.Equal(got, want) {
			t.Fatalf("got %v, error %d; want %v", got, e, want)
		}
	}
}

// wantNoSet fails unless the call gave this error, and no set with it.
func wantNoSet(t *testing.T, want api.Errno) func([]api.Span, api.Errno) {
	return func(got []api.Span, e api.Errno) {
		t.Helper()
		if e != want || len(got) != 0 {
			t.Fatalf("got %v, error %d; want error %d and no set", got, e, want)
		}
	}
}

// wantInts fails unless the call gave just these numbers.
func wantInts(t *testing.T, want ...int) func([]int, api.Errno) {
	return func(got []int, e api.Errno) {
		t.Helper()
		if e != api.OK || !slices.Equal(got, want) {
			t.Fatalf("got %v, error %d; want %v", got, e, want)
		}
	}
}

// wantNoInts fails unless the call gave this error, and no numbers with it.
func wantNoInts(t *testing.T, want api.Errno) func([]int, api.Errno) {
	return func(got []int, e api.Errno) {
		t.Helper()
		if e != want || len(got) != 0 {
			t.Fatalf("got %v, error %d; want error %d and no numbers", got, e, want)
		}
	}
}

// wantInt fails unless the call gave this number and this error.
func wantInt(t *testing.T, want int, wantErr api.Errno) func(int, api.Errno) {
	return func(got int, e api.Errno) {
		t.Helper()
		if got != want || e != wantErr {
			t.Fatalf("got %d, error %d; want %d, error %d", got, e, want, wantErr)
		}
	}
}

// set returns the set of a call that must not fail.
func set(t *testing.T) func([]api.Span, api.Errno) []api.Span {
	return func(got []api.Span, e api.Errno) []api.Span {
		t.Helper()
		if e != api.OK {
			t.Fatalf("error %d", e)
		}
		return got
	}
}

// ints returns the numbers of a call that must not fail.
func ints(t *testing.T) func([]int, api.Errno) []int {
	return func(got []int, e api.Errno) []int {
		t.Helper()
		if e != api.OK {
			t.Fatalf("error %d", e)
		}
		return got
	}
}

// has is Has of a set.
func has(t *testing.T, a []api.Span, x int) bool {
	t.Helper()
	in, e := span.Has(a, x)
	if e != api.OK {
		t.Fatalf("Has(%v, %d): error %d", a, x, e)
	}
	return in
}

// within reports whether x is in s.
func within(s api.Span, x int) bool { return s.Lo <= x && x < s.Hi }

// meets reports whether two spans have a number in common.
func meets(a, b api.Span) bool { return a.Lo < b.Hi && b.Lo < a.Hi }

// smallSpans are all spans from 0 to n.
func smallSpans(n int) []api.Span {
	var l []api.Span
	for lo := range n {
		for hi := lo + 1; hi <= n; hi++ {
			l = append(l, api.Span{Lo: lo, Hi: hi})
		}
	}
	return l
}

// smallLists calls f with every list of at most length spans from 0 to n.
func smallLists(length, n int, f func([]api.Span)) {
	var grow func(l []api.Span)
	grow = func(l []api.Span) {
		f(slices.Clone(l))
		if len(l) == length {
			return
		}
		for _, s := range smallSpans(n) {
			grow(append(slices.Clone(l), s))
		}
	}
	grow(nil)
}

// longLists calls f with some lists of up to 128 spans, always the same ones.
func longLists(f func([]api.Span)) {
	state := uint64(1)
	next := func(n int) int {
		state = state*6364136223846793005 + 1442695040888963407
		return int(state>>33) % n
	}
	for range 300 {
		n, room, width := 1+next(api.MaxSpans), 1+next(200), 1+next(40)
		l := make([]api.Span, n)
		for i := range l {
			lo := next(room) - room/2
			l[i] = api.Span{Lo: lo, Hi: lo + 1 + next(width)}
		}
		f(l)
	}
}
