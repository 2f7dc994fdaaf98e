package span

import (
	"iter"
	"slices"

	"kimberlite/api"
)

// Cover returns the indexes of as few spans of l as possible that together
// contain all numbers of target.
func Cover(target api.Span, l []api.Span) ([]int, api.Errno) {
	taken, _, e := walk(target, l)
	return taken, e
}

// Apart returns numbers of target of which no span of l contains two, as many
// as Cover needs spans.
func Apart(target api.Span, l []api.Span) ([]int, api.Errno) {
	_, stops, e := walk(target, l)
	return stops, e
}

// Stab returns as few numbers as possible such that each span of l contains one.
func Stab(l []api.Span) ([]int, api.Errno) {
	points, _, e := stab(l)
	return points, e
}

// Disjoint returns the indexes of as many spans of l as possible that have, two
// by two, no number in common.
func Disjoint(l []api.Span) ([]int, api.Errno) {
	_, owners, e := stab(l)
	return owners, e
}

// Trays returns the tray of each span of l, and how many trays are used.
func Trays(l []api.Span) ([]int, int, api.Errno) {
	if e := check(l); e != api.OK {
		return nil, 0, e
	}
	trays := make([]int, len(l))
	// The spans come by ascending Lo, so the last end of a tray tells whether
	// there is room for the next one.
	var ends []int
	for i, s := range inOrder(l, func(s api.Span) int { return s.Lo }) {
		tray := slices.IndexFunc(ends, func(end int) bool { return end <= s.Lo })
		if tray < 0 {
			tray = len(ends)
			ends = append(ends, 0)
		}
		ends[tray] = s.Hi
		trays[i] = tray
	}
	return trays, len(ends), api.OK
}

// Depth returns the greatest number of spans of l that contain one number, and
// the smallest number that so many contain.
func Depth(l []api.Span) (int, int, api.Errno) {
	if e := check(l); e != api.OK {
		return 0, 0, e
	}
	most, where := 0, 0
	// Only at the Lo of a span more spans contain a number than the one before it.
	for _, s := range inOrder(l, func(s api.Span) int { return s.Lo }) {
		if n := containing(l, s.Lo); n > most {
			most, where = n, s.Lo
		}
	}
	return most, where, api.OK
}

// walk goes from target.Lo on to target.Hi, and returns the indexes of the
// spans that are taken, and the numbers at which they are.
func walk(target api.Span, l []api.Span) ([]int, []int, api.Errno) {
	if !valid(target) {
		return nil, nil, api.ErrArg
	}
	if e := check(l); e != api.OK {
		return nil, nil, e
	}
	var taken, stops []int
	for at, i := range steps(target, l) {
		if i < 0 {
			return nil, nil, api.ErrPlan
		}
		taken = append(taken, i)
		stops = append(stops, at)
	}
	return taken, stops, api.OK
}

// steps goes through the numbers at which a span is taken, each with the index
// of that span; after one with the index -1 there is no going on.
func steps(target api.Span, l []api.Span) iter.Seq2[int, int] {
	return func(yield func(int, int) bool) {
		for at := target.Lo; at < target.Hi; {
			i := choose(l,
				func(s api.Span) bool { return contains(s, at) },
				func(s, than api.Span) bool { return s.Hi > than.Hi })
			if !yield(at, i) || i < 0 {
				return
			}
			at = l[i].Hi
		}
	}
}

// choose returns the index of the best span that fits, the lowest of several;
// -1 if none fits.
func choose(l []api.Span, fits func(api.Span) bool, better func(s, than api.Span) bool) int {
	best := -1
	for i, s := range l {
		if fits(s) && (best < 0 || better(s, l[best])) {
			best = i
		}
	}
	return best
}

// stab returns the numbers that Stab chooses, and the indexes of the spans at
// which they are chosen.
func stab(l []api.Span) ([]int, []int, api.Errno) {
	if e := check(l); e != api.OK {
		return nil, nil, e
	}
	var points, owners []int
	for i, s := range inOrder(l, func(s api.Span) int { return s.Hi }) {
		if !slices.ContainsFunc(points, func(p int) bool { return contains(s, p) }) {
			points = append(points, s.Hi-1)
			owners = append(owners, i)
		}
	}
	return points, owners, api.OK
}

// containing returns how many spans of l contain x.
func containing(l []api.Span, x int) int {
	n := 0
	for _, s := range l {
		if contains(s, x) {
			n++
		}
	}
	return n
}
