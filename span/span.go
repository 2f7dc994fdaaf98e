// Package span is layer 1: sets of whole numbers as lists of intervals, and
// covers, points and trays of intervals. See shared/doc/01-span.md.
package span

import (
	"cmp"
	"iter"
	"slices"
	"sort"

	"kimberlite/api"
)

// Valid reports whether s is a set.
func Valid(s []api.Span) bool {
	if len(s) > api.MaxSpans {
		return false
	}
	for i, x := range s {
		if !valid(x) || i > 0 && s[i-1].Hi >= x.Lo {
			return false
		}
	}
	return true
}

// Of returns the set of all numbers that lie in a span of l.
func Of(l []api.Span) ([]api.Span, api.Errno) {
	if e := check(l); e != api.OK {
		return nil, e
	}
	var out []api.Span
	for _, s := range inOrder(l, func(s api.Span) int { return s.Lo }) {
		out = put(out, s)
	}
	return out, api.OK
}

// Union returns the numbers that are in a or in b.
func Union(a, b []api.Span) ([]api.Span, api.Errno) {
	return combine(a, b, func(inA, inB bool) bool { return inA || inB })
}

// Intersect returns the numbers that are in a and in b.
func Intersect(a, b []api.Span) ([]api.Span, api.Errno) {
	return combine(a, b, func(inA, inB bool) bool { return inA && inB })
}

// Subtract returns the numbers of a that are not in b.
func Subtract(a, b []api.Span) ([]api.Span, api.Errno) {
	return combine(a, b, func(inA, inB bool) bool { return inA && !inB })
}

// Not returns the numbers of the whole that are not in a.
func Not(a []api.Span) ([]api.Span, api.Errno) {
	return combine(a, nil, func(inA, _ bool) bool { return !inA })
}

// Has reports whether x is in a.
func Has(a []api.Span, x int) (bool, api.Errno) {
	if !Valid(a) {
		return false, api.ErrArg
	}
	in, _ := stretch(a, x)
	return in, api.OK
}

// Size returns how many numbers are in a.
func Size(a []api.Span) (int, api.Errno) {
	if !Valid(a) {
		return 0, api.ErrArg
	}
	n := 0
	for before, s := range counted(a) {
		n = before + s.Hi - s.Lo
	}
	return n, api.OK
}

// Nth returns the number of a with exactly i smaller ones in a.
func Nth(a []api.Span, i int) (int, api.Errno) {
	if !Valid(a) {
		return 0, api.ErrArg
	}
	for before, s := range counted(a) {
		// The first comparison keeps the difference of the second one from overflowing.
		if before <= i && i-before < s.Hi-s.Lo {
			return s.Lo + i - before, api.OK
		}
	}
	return 0, api.ErrNone
}

// Rank returns how many numbers of a are less than x.
func Rank(a []api.Span, x int) (int, api.Errno) {
	if !Valid(a) {
		return 0, api.ErrArg
	}
	n := 0
	for before, s := range counted(a) {
		if x <= s.Lo {
			break
		}
		n = before + min(x, s.Hi) - s.Lo
	}
	return n, api.OK
}

// Grow returns the numbers of the whole whose distance to a number of a is at most r.
func Grow(a []api.Span, r int) ([]api.Span, api.Errno) {
	return resize(a, r, func(s api.Span) api.Span {
		return api.Span{Lo: max(s.Lo-r, -api.MaxBound), Hi: min(s.Hi+r, api.MaxBound)}
	})
}

// Shrink returns the numbers of the whole all of whose neighbours are in a.
func Shrink(a []api.Span, r int) ([]api.Span, api.Errno) {
	return resize(a, r, func(s api.Span) api.Span {
		// A span that reaches an end of the whole keeps it: beyond the end
		// there is no neighbour that could be missing.
		if s.Lo > -api.MaxBound {
			s.Lo += r
		}
		if s.Hi < api.MaxBound {
			s.Hi -= r
		}
		return s
	})
}

func valid(s api.Span) bool {
	return -api.MaxBound <= s.Lo && s.Lo < s.Hi && s.Hi <= api.MaxBound
}

func contains(s api.Span, x int) bool { return s.Lo <= x && x < s.Hi }

// check returns the error of a list of spans that need not be a set.
func check(l []api.Span) api.Errno {
	if len(l) > api.MaxSpans {
		return api.ErrLimit
	}
	for _, s := range l {
		if !valid(s) {
			return api.ErrArg
		}
	}
	return api.OK
}

// inOrder goes through the spans of l with their indexes, by ascending key,
// equal ones by index.
func inOrder(l []api.Span, key func(api.Span) int) iter.Seq2[int, api.Span] {
	return func(yield func(int, api.Span) bool) {
		order := make([]int, len(l))
		for i := range order {
			order[i] = i
		}
		slices.SortStableFunc(order, func(i, j int) int { return cmp.Compare(key(l[i]), key(l[j])) })
		for _, i := range order {
			if !yield(i, l[i]) {
				return
			}
		}
	}
}

// put adds to out a span whose Lo is not below that of any span in out.
func put(out []api.Span, s api.Span) []api.Span {
	last := len(out) - 1
	if last < 0 || out[last].Hi < s.Lo {
		return append(out, s)
	}
	out[last].Hi = max(out[last].Hi, s.Hi)
	return out
}

// combine returns the set of the numbers of the whole that keep wants.
func combine(a, b []api.Span, keep func(inA, inB bool) bool) ([]api.Span, api.Errno) {
	if !Valid(a) || !Valid(b) {
		return nil, api.ErrArg
	}
	var out []api.Span
	for p := range pieces(a, b) {
		if keep(p.inA, p.inB) {
			out = put(out, p.span)
		}
	}
	if len(out) > api.MaxSpans {
		return nil, api.ErrFull
	}
	return out, api.OK
}

// piece is a part of the whole that lies, or does not lie, in each of two sets
// with all its numbers.
type piece struct {
	span     api.Span
	inA, inB bool
}

// pieces goes through the whole from its lower end to its upper end.
func pieces(a, b []api.Span) iter.Seq[piece] {
	return func(yield func(piece) bool) {
		for at := -api.MaxBound; at < api.MaxBound; {
			inA, endA := stretch(a, at)
			inB, endB := stretch(b, at)
			end := min(endA, endB)
			if !yield(piece{api.Span{Lo: at, Hi: end}, inA, inB}) {
				return
			}
			at = end
		}
	}
}

// stretch reports whether at is in the set a, and up to which number that stays so.
func stretch(a []api.Span, at int) (bool, int) {
	i := sort.Search(len(a), func(i int) bool { return at < a[i].Hi })
	if i == len(a) {
		return false, api.MaxBound
	}
	if at < a[i].Lo {
		return false, a[i].Lo
	}
	return true, a[i].Hi
}

// counted goes through the spans of the set a, each with how many numbers of a
// come before it.
func counted(a []api.Span) iter.Seq2[int, api.Span] {
	return func(yield func(int, api.Span) bool) {
		before := 0
		for _, s := range a {
			if !yield(before, s) {
				return
			}
			before += s.Hi - s.Lo
		}
	}
}

// resize returns the set of what change makes of each span of a; it drops
// spans that become empty.
func resize(a []api.Span, r int, change func(api.Span) api.Span) ([]api.Span, api.Errno) {
	if !Valid(a) || r < 0 || r > api.MaxBound {
		return nil, api.ErrArg
	}
	var out []api.Span
	for _, s := range a {
		if t := change(s); t.Lo < t.Hi {
			out = put(out, t)
		}
	}
	return out, api.OK
}
