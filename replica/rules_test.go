package replica_test

import (
	"slices"
	"strings"
	"testing"

	"kimberlite/api"
	"kimberlite/replica"
)

// Rules 2 to 4 of DOC.md, and P1: what holds for all functions of the package.

// Rule 3: a replica that is nil, or that no function returned, whatever is asked of it.
func TestNil(t *testing.T) {
	for _, r := range []*replica.Replica{nil, {}, new(replica.Replica)} {
		for _, n := range anyInts() {
			for _, name := range []string{"", "a", "A", strings.Repeat("a", 40)} {
				wantErrno(t, api.ErrNil, r.Put(n, name))
				wantRefused(t, api.ErrNil)(r.Drop(n, name))
				wantErrno(t, api.ErrNil, r.Write(n, name))
			}
			if l, e := r.Has(n); len(l) > 0 || e != api.ErrNil {
				t.Fatalf("Has: %v, error %d", l, e)
			}
			wantNoText(t, r, n, api.ErrNil)
			wantErrno(t, api.ErrNil, r.Make(n, 1))
			wantErrno(t, api.ErrNil, r.Give(n, n+1, 1))
			wantErrno(t, api.ErrNil, r.Take(n, n))
			wantRefused(t, api.ErrNil)(r.Free(n))
			wantRefused(t, api.ErrNil)(r.Left(n))
		}
		wantErrno(t, api.ErrNil, r.Sync(api.State{}))
		wantErrno(t, api.ErrNil, r.Sync(fullState()))
		if s := r.State(); !isZero(s) || s.Seen != nil || r.Copy() != nil {
			t.Errorf("state %v, copy %v", s, r.Copy())
		}
	}
}

// wipe overwrites the lists of a state, and what is behind their ends.
func wipe(s api.State) {
	fill(s.Seen, 77)
	fill(s.Tags, tag(77, "!", 77, 77))
	fill(s.Notes, note(77, "!", 77, 77))
	fill(s.Rights, right(77, 77, 77, 77))
	fill(s.Used, used(77, 77, 77))
}

func fill[T any](l []T, with T) {
	l = l[:cap(l)]
	for i := range l {
		l[i] = with
	}
}

// Rule 4: lists that a replica was given or gave away are not its own.
func TestMemory(t *testing.T) {
	s := fullState()
	r := load(t, 1, s)
	wipe(s)
	wantState(t, r, fullState())
	wipe(r.State())
	names, _ := r.Has(3)
	fill(names, "!")
	wantState(t, r, fullState())
	wantNames(t, r, 3, "a", "b")

	one := begin(t, 1)
	s = fullState()
	wantErrno(t, api.OK, one.Sync(s))
	wipe(s)
	wantState(t, one, fullState())
	empty := api.State{Seen: seen()}
	wantErrno(t, api.OK, one.Sync(empty))
	wipe(empty)
	wantState(t, one, fullState())
	given := one.State()
	before := deep(given)
	wantErrno(t, api.OK, one.Put(3, "b"))
	wantErrno(t, api.OK, one.Write(7, "new"))
	wantErrno(t, api.OK, one.Make(3, 3))
	wantErrno(t, api.OK, one.Take(3, 1))
	wantErrno(t, api.OK, one.Take(3, 1))
	wantNumber(t, 2)(one.Drop(63, "0"))
	if !same(given, before) {
		t.Errorf("a state that was given away is now %v", given)
	}
}

// Rule 4: what comes of Merge is neither of both, and neither is changed.
func TestMergeMemory(t *testing.T) {
	d := dice(4)
	for range 3000 {
		a, b := someState(&d), someState(&d)
		if d.next(4) == 0 {
			a = api.State{Seen: seen()}
		}
		// What is behind the end of a list is not to be written either.
		a.Tags, a.Notes = append(a.Tags, tag(9, "x", 0, 1))[:len(a.Tags)], append(a.Notes, note(9, "x", 1, 1))[:len(a.Notes)]
		a.Rights, a.Used = append(a.Rights, right(7, 7, 7, 7))[:len(a.Rights)], append(a.Used, used(7, 7, 7))[:len(a.Used)]
		oldA, oldB := deep(a), deep(b)
		m, e := replica.Merge(a, b)
		replica.Covers(a, b)
		replica.Right(a)
		if !same(a, oldA) || !same(b, oldB) {
			t.Fatalf("%v and %v are now %v and %v", oldA, oldB, a, b)
		}
		if a.Tags[:len(a.Tags)+1][len(a.Tags)] != tag(9, "x", 0, 1) || a.Rights[:len(a.Rights)+1][len(a.Rights)] != right(7, 7, 7, 7) ||
			a.Notes[:len(a.Notes)+1][len(a.Notes)] != note(9, "x", 1, 1) || a.Used[:len(a.Used)+1][len(a.Used)] != used(7, 7, 7) {
			t.Fatalf("something behind the end of %v was written", a)
		}
		want, wantE := merge(oldA, oldB)
		wipe(a)
		wipe(b)
		if !same(m, want) || e != wantE {
			t.Fatalf("%v with %v is now %v, error %d; want %v, error %d", oldA, oldB, m, e, want, wantE)
		}
		wipe(m)
	}
}

// Rule 2: a call that fails changes nothing, and uses up no dot and no Time.
func TestErrorsChangeNothing(t *testing.T) {
	r := load(t, 0, fullState())
	a, b := overdrawn()
	for _, n := range anyInts() {
		if !isStone(n) {
			r.Put(n, "a")
			r.Drop(n, "a")
			r.Write(n, "a")
		}
		r.Put(3, strings.Repeat("A", 1+(n&7)))
		r.Drop(3, "a!")
		r.Write(3, strings.Repeat("x", 33+(n&7)))
		r.Give(n, 0, 1)
		r.Take(3, n)
		r.Take(0, n)
		r.Make(8+(n&7), 1)
		r.Give(0, 1+(n&7), 0)
		r.Sync(api.State{Seen: seen(n)[:7]})
	}
	a.Used = append(a.Used, used(7, 3, 9))
	r.Sync(a)
	b.Tags = []api.Tag{tag(5, "a", 0, 3)}
	b.Seen = seen(5)
	r.Sync(b)
	wantState(t, r, fullState())
	wantErrno(t, api.OK, r.Put(5, "a"))
	wantErrno(t, api.OK, r.Write(5, "a"))
	s := r.State()
	if !slices.Contains(s.Tags, tag(5, "a", 0, 4)) || !slices.Contains(s.Notes, note(5, "a", 13, 0)) {
		t.Errorf("state %v", s)
	}
}

// P1: states of any numbers at all.
func TestAnyStates(t *testing.T) {
	d := dice(11)
	n := func() int { return d.some(anyInts()...) }
	for range 3000 {
		var l [2]api.State
		for i := range l {
			s := fullState()
			for range 1 + d.next(3) {
				s.Seen[d.next(8)] = n()
				s.Tags[d.next(len(s.Tags))] = tag(n(), d.text("a", "", "A"), n(), n())
				s.Notes[d.next(len(s.Notes))] = note(n(), "", n(), n())
				s.Rights[d.next(len(s.Rights))] = right(n(), n(), n(), n())
				s.Used[d.next(len(s.Used))] = used(n(), n(), n())
			}
			s.Seen = s.Seen[:d.some(0, 1, 7, 8, 8, 8)]
			l[i] = s
		}
		if replica.Right(l[0]) != isRight(l[0]) {
			t.Fatalf("%v is right: %v", l[0], !isRight(l[0]))
		}
		if isRight(l[0]) && isRight(l[1]) {
			continue
		}
		wantApart(t, l[0], l[1], api.ErrArg)
		if r := begin(t, 0); !isRight(l[0]) {
			wantErrno(t, api.ErrArg, r.Sync(l[0]))
			wantState(t, r, api.State{Seen: seen()})
		}
	}
}
