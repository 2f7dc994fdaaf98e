package span_test

import (
	"slices"
	"testing"

	"kimberlite/api"
	"kimberlite/span"
)

// Rules 3 to 5 of DOC.md, and P2: what holds for all functions of the package.

// roomy is a copy of l with room behind its end, and all of it.
func roomy(l []api.Span) (part, all []api.Span) {
	all = append(slices.Clone(l), sp(77, 78, 79, 80, 81, 82, 83, 84, 85, 86, 87, 88)...)
	return all[:len(l)], all
}

// setCalls are the functions that return a set of two lists.
func setCalls() map[string]func(a, b []api.Span) ([]api.Span, api.Errno) {
	return map[string]func(a, b []api.Span) ([]api.Span, api.Errno){
		"Of":        func(a, _ []api.Span) ([]api.Span, api.Errno) { return span.Of(a) },
		"Union":     span.Union,
		"Intersect": span.Intersect,
		"Subtract":  span.Subtract,
		"Not":       func(a, _ []api.Span) ([]api.Span, api.Errno) { return span.Not(a) },
		"Grow":      func(a, _ []api.Span) ([]api.Span, api.Errno) { return span.Grow(a, 1) },
		"Grow 0":    func(a, _ []api.Span) ([]api.Span, api.Errno) { return span.Grow(a, 0) },
		"Shrink":    func(a, _ []api.Span) ([]api.Span, api.Errno) { return span.Shrink(a, 1) },
		"Shrink 0":  func(a, _ []api.Span) ([]api.Span, api.Errno) { return span.Shrink(a, 0) },
	}
}

// listCalls are the functions that return numbers of a list.
func listCalls() map[string]func(l []api.Span) ([]int, api.Errno) {
	target := api.Span{Lo: 0, Hi: 6}
	return map[string]func(l []api.Span) ([]int, api.Errno){
		"Cover":    func(l []api.Span) ([]int, api.Errno) { return span.Cover(target, l) },
		"Apart":    func(l []api.Span) ([]int, api.Errno) { return span.Apart(target, l) },
		"Stab":     span.Stab,
		"Disjoint": span.Disjoint,
		"Trays":    func(l []api.Span) ([]int, api.Errno) { trays, _, e := span.Trays(l); return trays, e },
		"Depth":    func(l []api.Span) ([]int, api.Errno) { n, at, e := span.Depth(l); return []int{n, at}, e },
		"Size":     func(l []api.Span) ([]int, api.Errno) { n, e := span.Size(l); return []int{n}, e },
		"Nth":      func(l []api.Span) ([]int, api.Errno) { x, e := span.Nth(l, 1); return []int{x}, e },
		"Rank":     func(l []api.Span) ([]int, api.Errno) { n, e := span.Rank(l, 3); return []int{n}, e },
		"Has":      func(l []api.Span) ([]int, api.Errno) { _, e := span.Has(l, 3); return nil, e },
		"Valid":    func(l []api.Span) ([]int, api.Errno) { span.Valid(l); return nil, api.OK },
		"Text":     func(l []api.Span) ([]int, api.Errno) { _, e := span.Text(l); return nil, e },
	}
}

// pairsOfLists are sets, and for the last ones lists that only some take.
func pairsOfLists() [][2][]api.Span {
	return [][2][]api.Span{
		{sp(1, 4, 6, 9), nil},
		{nil, sp(1, 4, 6, 9)},
		{sp(1, 4, 6, 9), sp(2, 3, 5, 8, 11, 20)},
		{sp(-bound, 0, 5, bound), sp(-bound, -7, 0, 5)},
		{sp(0, 9), sp(0, 9)},
		{sp(4, 9, 0, 3, 2, 5), sp(0, 9)},
		{sp(3, 9, 0, 3, 0, 3), sp(4, 3)},
	}
}

// Rule 4: arguments stay as they are, up to their capacity, and results are new
// memory: what is done to them or to an argument shows in no other result.
func TestSetMemory(t *testing.T) {
	for name, call := range setCalls() {
		for _, p := range pairsOfLists() {
			a, allA := roomy(p[0])
			b, allB := roomy(p[1])
			wasA, wasB := slices.Clone(allA), slices.Clone(allB)
			first, e := call(a, b)
			want := slices.Clone(first)
			if !slices.Equal(allA, wasA) || !slices.Equal(allB, wasB) {
				t.Fatalf("%s of %v and %v changes them", name, p[0], p[1])
			}
			for i := range first {
				first[i] = api.Span{Lo: 55, Hi: 44}
			}
			first = append(first, api.Span{Lo: 55, Hi: 44})
			if !slices.Equal(allA, wasA) || !slices.Equal(allB, wasB) {
				t.Fatalf("%s of %v and %v shares memory with them: %v", name, p[0], p[1], first)
			}
			second, f := call(a, b)
			if e != f || !slices.Equal(second, want) {
				t.Fatalf("%s of %v and %v: first %v, error %d, then %v, error %d", name, p[0], p[1], want, e, second, f)
			}
			for i := range allA {
				allA[i] = api.Span{Lo: 33, Hi: 22}
			}
			for i := range allB {
				allB[i] = api.Span{Lo: 33, Hi: 22}
			}
			if !slices.Equal(second, want) {
				t.Fatalf("%s of %v and %v shares memory with them", name, p[0], p[1])
			}
		}
	}
}

// Rule 4, P2: the same for the functions that return numbers.
func TestListMemory(t *testing.T) {
	for name, call := range listCalls() {
		for _, p := range pairsOfLists() {
			l, all := roomy(p[0])
			was := slices.Clone(all)
			first, e := call(l)
			want := slices.Clone(first)
			for i := range first {
				first[i] = -12345
			}
			second, f := call(l)
			if e != f || !slices.Equal(second, want) || !slices.Equal(all, was) {
				t.Fatalf("%s of %v: first %v, error %d, then %v, error %d", name, p[0], want, e, second, f)
			}
		}
	}
}

// Rule 4: Parse's set is new each time.
func TestParseMemory(t *testing.T) {
	const text = "1..3 5..7"
	first := set(t)(span.Parse(text))
	first[0].Lo = -9
	wantSet(t, sp(1, 3, 5, 7))(span.Parse(text))
}
