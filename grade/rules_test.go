package grade_test

import (
	"slices"
	"testing"

	"kimberlite/api"
	"kimberlite/grade"
)

// Rules 2, 4 and 5 of DOC.md, P1 and P2: what holds for all functions of the package.

// roomy is a copy of l with room behind its end, and all of it.
func roomy[T any](l []T, more T) (part, all []T) {
	all = append(slices.Clone(l), slices.Repeat([]T{more}, 300)...)
	return all[:len(l)], all
}

// flat is the numbers of grades, in a row.
func flat(l []api.Grade) []int {
	var out []int
	for _, g := range l {
		out = append(out, g[:]...)
	}
	return out
}

// gradeCalls are the functions of lists of grades, with all that they return in
// numbers, and the list in which they return grades or numbers.
func gradeCalls() map[string]func(a, b []api.Grade) (numbers []int, wipe func()) {
	grades := func(call func(a, b []api.Grade) ([]api.Grade, api.Errno)) func(a, b []api.Grade) ([]int, func()) {
		return func(a, b []api.Grade) ([]int, func()) {
			got, e := call(a, b)
			return append(flat(got), int(e)), func() { wipe(got, api.Grade{77, 77, 77}) }
		}
	}
	return map[string]func(a, b []api.Grade) ([]int, func()){
		"Least":   grades(func(a, _ []api.Grade) ([]api.Grade, api.Errno) { return grade.Least(a) }),
		"Most":    grades(func(a, _ []api.Grade) ([]api.Grade, api.Errno) { return grade.Most(a) }),
		"Either":  grades(grade.Either),
		"Both":    grades(grade.Both),
		"Outside": grades(func(a, _ []api.Grade) ([]api.Grade, api.Errno) { return grade.Outside(a) }),
		"Beyond":  grades(func(a, _ []api.Grade) ([]api.Grade, api.Errno) { return grade.Beyond(a) }),
		"Count": func(a, _ []api.Grade) ([]int, func()) {
			n, e := grade.Count(a)
			return []int{n, int(e)}, func() {}
		},
		"In": func(a, _ []api.Grade) ([]int, func()) {
			in, e := grade.In(a, api.Grade{4, 4, 4})
			if in {
				return []int{1, int(e)}, func() {}
			}
			return []int{0, int(e)}, func() {}
		},
		"Width": func(a, _ []api.Grade) ([]int, func()) {
			n, got, e := grade.Width(a)
			return append(slices.Clone(got), n, int(e)), func() { wipe(got, -77) }
		},
		"Chains": func(a, _ []api.Grade) ([]int, func()) {
			got, n, e := grade.Chains(a)
			return append(slices.Clone(got), n, int(e)), func() { wipe(got, -77) }
		},
	}
}

// wipe overwrites a result, and what is behind its end.
func wipe[T any](l []T, with T) {
	l = l[:cap(l)]
	for i := range l {
		l[i] = with
	}
}

// Rule 4, P2: arguments stay as they are, up to their capacity; results are new
// memory; and the same call has the same result.
func TestGradeMemory(t *testing.T) {
	lists := [][]api.Grade{
		nil, gr(0, 0, 0), gr(11, 11, 11), gr(3, 4, 5), gr(0, 3, 0, 2, 0, 0), gr(0, 4, 4, 2, 0, 9, 5, 5, 0),
		layer(3), gr(2, 0, 0, 0, 3, 0), gr(1, 1, 1, 1, 1, 1, 0, 5, 0), gr(5, 5, 5, 12, 0, 0), layer(17),
	}
	for name, call := range gradeCalls() {
		for _, l := range lists {
			for _, m := range [][]api.Grade{nil, gr(0, 0, 0), gr(0, 4, 0, 3, 0, 0), l} {
				a, allA := roomy(l, api.Grade{5, 5, 5})
				b, allB := roomy(m, api.Grade{6, 6, 6})
				wasA, wasB := slices.Clone(allA), slices.Clone(allB)
				first, wipeFirst := call(a, b)
				wipeFirst()
				second, _ := call(a, b)
				if !slices.Equal(first, second) {
					t.Fatalf("%s of %v and %v: first %v, then %v", name, l, m, first, second)
				}
				if !slices.Equal(allA, wasA) || !slices.Equal(allB, wasB) {
					t.Fatalf("%s of %v and %v changes them, or shares memory with them", name, l, m)
				}
			}
		}
	}
}

// Rule 4: what is done to an argument later shows in no result.
func TestGradeResultsStay(t *testing.T) {
	calls := map[string]func([]api.Grade) ([]api.Grade, api.Errno){
		"Least":    grade.Least,
		"Most":     grade.Most,
		"Either 1": func(l []api.Grade) ([]api.Grade, api.Errno) { return grade.Either(l, nil) },
		"Either 2": func(l []api.Grade) ([]api.Grade, api.Errno) { return grade.Either(nil, l) },
		"Both 1":   func(l []api.Grade) ([]api.Grade, api.Errno) { return grade.Both(l, gr(0, 0, 0)) },
		"Both 2":   func(l []api.Grade) ([]api.Grade, api.Errno) { return grade.Both(gr(0, 0, 0), l) },
	}
	for name, call := range calls {
		for _, want := range [][]api.Grade{gr(3, 4, 5), gr(0, 3, 0, 2, 0, 0), layer(16)} {
			l := slices.Clone(want)
			got := list(t)(call(l))
			wipe(l, api.Grade{77, 77, 77})
			if !slices.Equal(got, want) {
				t.Fatalf("%s shares memory with %v", name, want)
			}
		}
	}
}

// quoteCalls are the functions of price lists, like gradeCalls.
func quoteCalls() map[string]func(l []api.Quote) (numbers []int, wipe func()) {
	return map[string]func(l []api.Quote) ([]int, func()){
		"Clash": func(l []api.Quote) ([]int, func()) {
			i, j, e := grade.Clash(l)
			return []int{i, j, int(e)}, func() {}
		},
		"Level": func(l []api.Quote) ([]int, func()) {
			got, n, e := grade.Level(l)
			return append(slices.Clone(got), n, int(e)), func() { wipe(got, -77) }
		},
		"Settle": func(l []api.Quote) ([]int, func()) {
			got, n, e := grade.Settle(l)
			return append(slices.Clone(got), n, int(e)), func() { wipe(got, -77) }
		},
	}
}

// Rule 4, P2: the same for price lists.
func TestQuoteMemory(t *testing.T) {
	for name, call := range quoteCalls() {
		try := func(l []api.Quote) {
			part, all := roomy(l, quote(5, 5, 5, 5, 5))
			was := slices.Clone(all)
			first, wipeFirst := call(part)
			wipeFirst()
			second, _ := call(part)
			if !slices.Equal(first, second) || !slices.Equal(all, was) {
				t.Fatalf("%s of %v: first %v, then %v", name, l, first, second)
			}
		}
		try(nil)
		try(line(9, 1, 5))
		try(line(1, 5, 9))
		try([]api.Quote{quote(12, 0, 0, 1, 1)})
		longQuotes(try)
	}
}

// P1: every function ends, and none panics, on lists that are far too long.
func TestHugeLists(t *testing.T) {
	for _, g := range gr(0, 0, 0, 11, 11, 11, minInt, maxInt, 0) {
		l := slices.Repeat([]api.Grade{g}, 1<<18)
		for name, call := range gradeCalls() {
			got, _ := call(l, l)
			want := int(api.ErrArg)
			if slices.Contains([]string{"Least", "Most", "Width", "Chains"}, name) {
				want = int(api.ErrLimit)
			}
			if got[len(got)-1] != want {
				t.Fatalf("%s: error %d", name, got[len(got)-1])
			}
		}
	}
}
