package grade_test

import (
	"slices"
	"testing"

	"kimberlite/api"
)

const (
	maxInt = int(^uint(0) >> 1)
	minInt = -maxInt - 1
	top    = api.MaxLevel
)

// gr makes a list of grades, of three numbers each.
func gr(numbers ...int) []api.Grade {
	var l []api.Grade
	for i := 0; i+2 < len(numbers); i += 3 {
		l = append(l, api.Grade{numbers[i], numbers[i+1], numbers[i+2]})
	}
	return l
}

// box is all grades whose numbers are among the given ones, in their order.
func box(numbers ...int) []api.Grade {
	var l []api.Grade
	for _, a := range numbers {
		for _, b := range numbers {
			for _, c := range numbers {
				l = append(l, api.Grade{a, b, c})
			}
		}
	}
	return l
}

// allGrades is all valid grades, ascending.
func allGrades() []api.Grade {
	return box(0, 1, 2, 3, 4, 5, 6, 7, 8, 9, 10, 11)
}

// layer is all valid grades of that sum, ascending: an antichain.
func layer(sum int) []api.Grade {
	return slices.DeleteFunc(allGrades(), func(g api.Grade) bool { return g[0]+g[1]+g[2] != sum })
}

// notValid are grades that are not valid: a number below 0 or above 11 in each place.
func notValid() []api.Grade {
	var l []api.Grade
	for place := range 3 {
		for _, number := range []int{-1, top + 1, minInt, maxInt} {
			for _, other := range []int{0, 5, top} {
				g := api.Grade{other, other, other}
				g[place] = number
				l = append(l, g)
			}
		}
	}
	return append(l, gr(-1, -1, -1, top+1, top+1, top+1, minInt, 0, maxInt)...)
}

// below, ascends and over say in the chapter's words what they are called.
func below(a, b api.Grade) bool { return a[0] <= b[0] && a[1] <= b[1] && a[2] <= b[2] }

func ascends(a, b api.Grade) bool {
	if a[0] != b[0] {
		return a[0] < b[0]
	}
	if a[1] != b[1] {
		return a[1] < b[1]
	}
	return a[2] < b[2]
}

func over(l []api.Grade, g api.Grade) bool {
	for _, h := range l {
		if below(h, g) {
			return true
		}
	}
	return false
}

func under(l []api.Grade, g api.Grade) bool {
	for _, h := range l {
		if below(g, h) {
			return true
		}
	}
	return false
}

// sorted fails unless l is an antichain of valid grades.
func sorted(t *testing.T, l []api.Grade) {
	t.Helper()
	for i, g := range l {
		for _, x := range g {
			if x < 0 || x > top {
				t.Fatalf("%v of %v is not valid", g, l)
			}
		}
		if i > 0 && !ascends(l[i-1], g) {
			t.Fatalf("%v is not strictly ascending", l)
		}
		for j, h := range l {
			if i != j && below(g, h) {
				t.Fatalf("in %v, %v is below %v", l, g, h)
			}
		}
	}
}

// wantGrades fails unless the call gave just these grades.
func wantGrades(t *testing.T, want []api.Grade) func([]api.Grade, api.Errno) {
	return func(got []api.Grade, e api.Errno) {
		t.Helper()
		if e != api.OK || !slices.Equal(got, want) {
			t.Fatalf("got %v, error %d; want %v", got, e, want)
		}
	}
}

// wantNoGrades fails unless the call gave this error, and no grades with it.
func wantNoGrades(t *testing.T, want api.Errno) func([]api.Grade, api.Errno) {
	return func(got []api.Grade, e api.Errno) {
		t.Helper()
		if e != want || len(got) != 0 {
			t.Fatalf("got %v, error %d; want error %d and no grades", got, e, want)
		}
	}
}

// list returns the grades of a call that must not fail.
func list(t *testing.T) func([]api.Grade, api.Errno) []api.Grade {
	return func(got []api.Grade, e api.Errno) []api.Grade {
		t.Helper()
		if e != api.OK {
			t.Fatalf("error %d", e)
		}
		return got
	}
}

// number returns the number of a call that must not fail.
func number(t *testing.T) func(int, api.Errno) int {
	return func(got int, e api.Errno) int {
		t.Helper()
		if e != api.OK {
			t.Fatalf("error %d", e)
		}
		return got
	}
}

// wantClash fails unless Clash gave just this.
func wantClash(t *testing.T, i, j int, want api.Errno) func(int, int, api.Errno) {
	return func(gotI, gotJ int, e api.Errno) {
		t.Helper()
		if gotI != i || gotJ != j || e != want {
			t.Fatalf("got %d, %d, error %d; want %d, %d, error %d", gotI, gotJ, e, i, j, want)
		}
	}
}

// wantFit fails unless Level, Settle or Chains gave just this.
func wantFit(t *testing.T, n int, want ...int) func([]int, int, api.Errno) {
	return func(got []int, gotN int, e api.Errno) {
		t.Helper()
		if e != api.OK || !slices.Equal(got, want) || gotN != n {
			t.Fatalf("got %v, %d, error %d; want %v, %d", got, gotN, e, want, n)
		}
	}
}

// wantNoFit fails unless Level, Settle or Chains gave this error and nothing else.
func wantNoFit(t *testing.T, want api.Errno) func([]int, int, api.Errno) {
	return func(got []int, n int, e api.Errno) {
		t.Helper()
		if e != want || len(got) != 0 || n != 0 {
			t.Fatalf("got %v, %d, error %d; want error %d and nothing else", got, n, e, want)
		}
	}
}

// dice gives numbers that are always the same ones.
type dice uint64

// next is a number from 0 to n - 1.
func (d *dice) next(n int) int {
	*d = *d*6364136223846793005 + 1442695040888963407
	return int(*d>>33) % n
}

// grade is a grade whose numbers are less than n, some steps apart from each other.
func (d *dice) grade(n, step int) api.Grade {
	return api.Grade{d.next(n) * step, d.next(n) * step, d.next(n) * step}
}

// grades is a list of such grades, of any length up to most.
func (d *dice) grades(most, n, step int) []api.Grade {
	l := make([]api.Grade, d.next(most+1))
	for i := range l {
		l[i] = d.grade(n, step)
	}
	return l
}
