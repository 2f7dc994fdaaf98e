package replica_test

import (
	"slices"
	"strings"
	"testing"

	"kimberlite/api"
	"kimberlite/replica"
)

// P8.1: New, of all offices and of none.
func TestNew(t *testing.T) {
	for _, n := range anyInts() {
		r, e := replica.New(n)
		if !isOffice(n) {
			if r != nil || e != api.ErrArg {
				t.Errorf("New(%d): %v, error %d", n, r, e)
			}
			continue
		}
		wantErrno(t, api.OK, e)
		s := r.State()
		if !slices.Equal(s.Seen, []int{0, 0, 0, 0, 0, 0, 0, 0}) || len(s.Tags)+len(s.Notes)+len(s.Rights)+len(s.Used) != 0 {
			t.Errorf("New(%d) has the state %v", n, s)
		}
		wantErrno(t, api.OK, r.Put(0, "a"))
		wantErrno(t, api.OK, r.Write(0, "b"))
		wantErrno(t, api.OK, r.Make(0, 1))
		wantErrno(t, api.OK, r.Take(0, 1))
		want := api.State{Seen: seen(), Tags: []api.Tag{tag(0, "a", n, 1)}, Notes: []api.Note{note(0, "b", 1, n)},
			Rights: []api.Right{right(0, n, n, 1)}, Used: []api.Used{used(0, n, 1)}}
		want.Seen[n] = 1
		wantState(t, r, want)
	}
}

// P8.1: Load, of all offices and of none, with states that are right and that are not.
func TestLoad(t *testing.T) {
	full, wrong := fullState(), fullState()
	wrong.Used[0].Amount = 0
	for _, n := range anyInts() {
		for _, s := range []api.State{full, wrong, {}, {Seen: seen()}} {
			r, e := replica.Load(n, s)
			if !isOffice(n) || !isRight(s) {
				if r != nil || e != api.ErrArg {
					t.Errorf("Load(%d, %v): %v, error %d", n, s, r, e)
				}
				continue
			}
			wantErrno(t, api.OK, e)
			wantState(t, r, s)
			if s.Seen[n] == maxCount {
				wantErrno(t, api.ErrRange, r.Put(63, "loaded"))
				continue
			}
			wantErrno(t, api.OK, r.Put(63, "loaded"))
			if l := r.State().Tags; l[len(l)-1] != tag(63, "loaded", n, s.Seen[n]+1) {
				t.Errorf("Load(%d) puts %v", n, l)
			}
		}
	}
}

// P8.1: a copy is as what it was made of, and goes on by itself.
func TestCopy(t *testing.T) {
	r := load(t, 2, fullState())
	c := r.Copy()
	wantState(t, c, fullState())
	wantErrno(t, api.OK, c.Put(9, "copied"))
	wantErrno(t, api.OK, c.Write(9, "copied"))
	wantErrno(t, api.OK, c.Make(7, 5))
	wantErrno(t, api.OK, c.Take(7, 4))
	wantNumber(t, 1)(c.Drop(3, "b"))
	wantState(t, r, fullState())
	changed := c.State()
	if l := changed.Tags; !slices.Contains(l, tag(9, "copied", 2, 5)) {
		t.Errorf("the copy of office 2 puts %v", l)
	}
	wantErrno(t, api.OK, r.Put(3, "b"))
	wantErrno(t, api.OK, r.Write(63, "its own"))
	wantErrno(t, api.OK, r.Make(7, 1))
	wantState(t, c, changed)
}

// fullState is a right state with something of everything, at many limits.
func fullState() api.State {
	return api.State{
		Seen: []int{3, 0, 4, maxCount, 0, 0, 0, 1},
		Tags: []api.Tag{tag(0, "abcdefgh", 2, 4), tag(0, "b", 0, 3), tag(3, "a", 0, 1), tag(3, "a", 2, 1), tag(3, "a", 2, 2), tag(3, "b", 0, 2),
			tag(63, "0", 3, 1), tag(63, "0", 3, maxCount), tag(63, "9", 7, 1)},
		Notes: []api.Note{note(0, "", 1, 0), note(7, strings.Repeat("x", 32), 12, 7), note(63, "\xff\x00", 12, 3)},
		Rights: []api.Right{right(0, 0, 0, 10), right(0, 0, 1, 4), right(0, 1, 0, 2), right(2, 7, 7, maxCount), right(7, 3, 3, 1),
			right(7, 3, 7, 1), right(7, 7, 3, 1), right(7, 7, 7, maxCount)},
		Used: []api.Used{used(0, 0, 8), used(0, 1, 2), used(2, 7, maxCount), used(7, 3, 1), used(7, 7, maxCount)},
	}
}

// P8.1: each number of a right state at and beyond all limits.
func TestRightNumbers(t *testing.T) {
	fields := func(s *api.State) []*int {
		var l []*int
		for i := range s.Seen {
			l = append(l, &s.Seen[i])
		}
		for i := range s.Tags {
			l = append(l, &s.Tags[i].Stone, &s.Tags[i].Dot.Office, &s.Tags[i].Dot.Count)
		}
		for i := range s.Notes {
			l = append(l, &s.Notes[i].Stone, &s.Notes[i].Time, &s.Notes[i].Office)
		}
		for i := range s.Rights {
			l = append(l, &s.Rights[i].Stock, &s.Rights[i].From, &s.Rights[i].To, &s.Rights[i].Amount)
		}
		for i := range s.Used {
			l = append(l, &s.Used[i].Stock, &s.Used[i].Office, &s.Used[i].Amount)
		}
		return l
	}
	s := fullState()
	if !replica.Right(s) || !isRight(s) {
		t.Fatal("the full state is not right")
	}
	good := 0
	for i, field := range fields(&s) {
		was := *field
		for _, n := range append(anyInts(), 4, 5, 10, 11, 12, 13) {
			*field = n
			if got := replica.Right(s); got != isRight(s) {
				t.Fatalf("field %d is %d: right: %v", i, n, got)
			}
			if replica.Right(s) {
				good++
			}
		}
		*field = was
	}
	if good < 100 {
		t.Errorf("only %d states were right", good)
	}
}

// P8.1: names, texts and the number of offices.
func TestRightTexts(t *testing.T) {
	for i, name := range append(badNames(), goodNames()...) {
		s := api.State{Seen: seen(1), Tags: []api.Tag{tag(0, name, 0, 1)}}
		if want := i >= len(badNames()); replica.Right(s) != want {
			t.Errorf("a tag %q is right: %v", name, !want)
		}
	}
	for n := range 40 {
		s := api.State{Seen: seen(), Notes: []api.Note{note(0, strings.Repeat("\xff", n), 1, 0)}}
		if replica.Right(s) != (n <= 32) {
			t.Errorf("a text of %d bytes is right: %v", n, n > 32)
		}
		if s := (api.State{Seen: make([]int, n)}); replica.Right(s) != (n == 8) {
			t.Errorf("what is seen of %d offices is right: %v", n, n != 8)
		}
	}
	if replica.Right(api.State{}) || !replica.Right(api.State{Seen: seen(), Tags: []api.Tag{}, Notes: []api.Note{}}) {
		t.Error("empty lists")
	}
}

// P8.1: the order of each list, and entries that are there twice.
func TestRightOrder(t *testing.T) {
	for _, s := range []api.State{fullState(), {Seen: seen(maxTags), Tags: manyTags(maxTags, 0, "a", "b")}} {
		checkSwaps(t, s, s.Tags)
		checkSwaps(t, s, s.Notes)
		checkSwaps(t, s, s.Rights)
		checkSwaps(t, s, s.Used)
	}
}

// checkSwaps tries each change of two entries of a list, and each entry in place of
// another one.
func checkSwaps[T any](t *testing.T, s api.State, l []T) {
	t.Helper()
	check := func(what string, i, j int) {
		t.Helper()
		if got := replica.Right(s); got != isRight(s) {
			t.Fatalf("%s %d and %d: right: %v, of %v", what, i, j, got, s)
		}
	}
	for i := range l {
		for j := range l {
			l[i], l[j] = l[j], l[i]
			check("changed", i, j)
			l[i], l[j] = l[j], l[i]
			was := l[i]
			l[i] = l[j]
			check("twice", i, j)
			l[i] = was
		}
	}
}

// P8.1: one dot for two tags, whether they stand side by side or not.
func TestRightDots(t *testing.T) {
	for _, l := range [][]api.Tag{
		{tag(0, "a", 1, 2), tag(0, "b", 1, 2)},
		{tag(0, "a", 1, 2), tag(1, "a", 1, 2)},
		{tag(0, "a", 1, 2), tag(1, "a", 1, 1), tag(5, "b", 1, 2)},
	} {
		if replica.Right(api.State{Seen: seen(0, 2), Tags: l}) {
			t.Errorf("%v are right", l)
		}
		l[0].Dot = api.Dot{Office: 0, Count: 2}
		if !replica.Right(api.State{Seen: seen(2, 2), Tags: l}) {
			t.Errorf("%v are not right", l)
		}
	}
}

// P8.1: how many tags there may be.
func TestRightLimit(t *testing.T) {
	for n := maxTags - 2; n <= maxTags+2; n++ {
		s := api.State{Seen: seen(0, n), Tags: manyTags(n, 1, "a", "b", "c")}
		if replica.Right(s) != (n <= maxTags) {
			t.Errorf("%d tags are right: %v", n, n > maxTags)
		}
	}
}

// P8.1: what an office got is at least what it gave and used, of each stock, and
// whatever the others have.
func TestRightStocks(t *testing.T) {
	for stock := range 8 {
		for office := range 8 {
			other := (office + 3) % 8
			for made := range 4 {
				for got := range 4 {
					for gave := range 4 {
						for took := range 4 {
							s := stockState(stock, office, other, [4]int{made, got, gave, took})
							if replica.Right(s) != (made+got >= gave+took) {
								t.Fatalf("made %d, got %d, gave %d, used %d: right: %v", made, got, gave, took, made+got < gave+took)
							}
						}
					}
				}
			}
		}
	}
	s := api.State{Seen: seen(), Rights: []api.Right{right(0, 0, 0, 9), right(1, 1, 1, 9)}, Used: []api.Used{used(0, 1, 1)}}
	if replica.Right(s) {
		t.Error("what another office or another stock has is used")
	}
}

// stockState is a state in which an office made, got, gave and used these amounts, and
// another one has more than enough.
func stockState(stock, office, other int, amounts [4]int) api.State {
	s := api.State{Seen: seen()}
	l := []api.Right{right(stock, office, office, amounts[0]), right(stock, other, office, amounts[1]),
		right(stock, office, other, amounts[2]), right(stock, other, other, 100)}
	for _, x := range l {
		if x.Amount > 0 {
			s.Rights = append(s.Rights, x)
		}
	}
	slices.SortFunc(s.Rights, func(x, y api.Right) int { return x.From*8 + x.To - y.From*8 - y.To })
	if amounts[3] > 0 {
		s.Used = append(s.Used, used(stock, office, amounts[3]))
	}
	return s
}
