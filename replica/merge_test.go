package replica_test

import (
	"slices"
	"strings"
	"testing"

	"kimberlite/api"
	"kimberlite/replica"
)

// P8.5: what is seen of each office is the greater one.
func TestMergeSeen(t *testing.T) {
	a := api.State{Seen: []int{0, 1, 2, 3, maxCount, 0, 7, 9}}
	b := api.State{Seen: []int{1, 0, 2, 4, 0, maxCount, 6, 9}}
	wantMerged(t, a, b, api.State{Seen: []int{1, 1, 2, 4, maxCount, maxCount, 7, 9}})
	wantMerged(t, a, api.State{Seen: seen()}, a)
}

// P8.5: a tag that one state has is there if the other one has it or has not seen it.
func TestMergeTags(t *testing.T) {
	x := tag(5, "a", 2, 3)
	for _, c := range []struct {
		count int // that the other one has seen of the office
		has   bool
		want  []api.Tag
	}{{0, false, []api.Tag{x}}, {2, false, []api.Tag{x}}, {3, false, nil}, {4, false, nil}, {3, true, []api.Tag{x}}, {9, true, []api.Tag{x}}} {
		a := api.State{Seen: seen(0, 0, 3), Tags: []api.Tag{x}}
		b := api.State{Seen: seen(9, 9, c.count, 9)}
		if c.has {
			b.Tags = []api.Tag{x}
		}
		wantMerged(t, a, b, api.State{Seen: seen(9, 9, max(3, c.count), 9), Tags: c.want})
	}
	a := api.State{Seen: seen(4, 1), Tags: []api.Tag{tag(0, "b", 0, 4), tag(3, "a", 0, 2), tag(3, "a", 1, 1)}}
	b := api.State{Seen: seen(3, 3), Tags: []api.Tag{tag(0, "a", 1, 2), tag(3, "a", 0, 2), tag(3, "a", 1, 3), tag(3, "b", 0, 1)}}
	want := api.State{Seen: seen(4, 3), Tags: []api.Tag{tag(0, "a", 1, 2), tag(0, "b", 0, 4), tag(3, "a", 0, 2), tag(3, "a", 1, 3)}}
	wantMerged(t, a, b, want)
}

// P8.5: the note with the greater Time, then Office, then Text.
func TestMergeNotes(t *testing.T) {
	// Each is less than those behind it.
	l := []api.Note{note(8, "", 1, 0), note(8, "z", 1, 0), note(8, "", 1, 3), note(8, "a", 1, 3), note(8, "a\x00", 1, 3), note(8, "aa", 1, 3),
		note(8, "b", 1, 3), note(8, "é", 1, 3), note(8, "\xff", 1, 3), note(8, "", 1, 7), note(8, "zz", 2, 0), note(8, "", maxCount, 0),
		note(8, strings.Repeat("z", 32), maxCount, 0)}
	for i, less := range l {
		for _, more := range l[i:] {
			a := api.State{Seen: seen(), Notes: []api.Note{less}}
			b := api.State{Seen: seen(), Notes: []api.Note{more}}
			wantMerged(t, a, b, b)
			a.Notes = []api.Note{note(7, "7", 1, 1), less}
			b.Notes = []api.Note{more, note(9, "9", 1, 1)}
			wantMerged(t, a, b, api.State{Seen: seen(), Notes: []api.Note{a.Notes[0], more, b.Notes[1]}})
		}
	}
}

// P8.5: the greater amount, place by place.
func TestMergeStocks(t *testing.T) {
	a := api.State{Seen: seen(), Rights: []api.Right{right(1, 0, 0, 9), right(1, 0, 1, 4), right(1, 1, 1, 5), right(7, 3, 3, maxCount)},
		Used: []api.Used{used(1, 0, 2), used(1, 1, 6), used(7, 3, 1)}}
	b := api.State{Seen: seen(), Rights: []api.Right{right(0, 1, 1, 2), right(1, 0, 0, 10), right(1, 0, 1, 3), right(1, 0, 2, 2), right(7, 3, 3, 8)},
		Used: []api.Used{used(1, 0, 1), used(1, 2, 1), used(7, 3, 7)}}
	want := api.State{Seen: seen(),
		Rights: []api.Right{right(0, 1, 1, 2), right(1, 0, 0, 10), right(1, 0, 1, 4), right(1, 0, 2, 2), right(1, 1, 1, 5), right(7, 3, 3, maxCount)},
		Used:   []api.Used{used(1, 0, 2), used(1, 1, 6), used(1, 2, 1), used(7, 3, 7)}}
	wantMerged(t, a, b, want)
}

// P8.5: one dot for different tags, whether either of them stayed or not.
func TestMergeDots(t *testing.T) {
	a := api.State{Seen: seen(0, 2), Tags: []api.Tag{tag(5, "a", 1, 2)}}
	for _, x := range []api.Tag{tag(5, "b", 1, 2), tag(6, "a", 1, 2), tag(4, "c", 1, 2), tag(0, "0", 1, 2)} {
		wantApart(t, a, api.State{Seen: seen(0, 2), Tags: []api.Tag{x}}, api.ErrArg)
		wantApart(t, a, api.State{Seen: seen(7, 7), Tags: []api.Tag{x, tag(63, "a", 1, 3)}}, api.ErrArg)
		r := load(t, 0, a)
		wantErrno(t, api.ErrArg, r.Sync(api.State{Seen: seen(0, 2), Tags: []api.Tag{x}}))
		wantState(t, r, a)
	}
	for _, x := range []api.Tag{tag(5, "b", 1, 1), tag(5, "b", 1, 3), tag(6, "a", 0, 2)} {
		want, e := merge(a, api.State{Seen: seen(2, 3), Tags: []api.Tag{x}})
		wantErrno(t, api.OK, e)
		wantMerged(t, a, api.State{Seen: seen(2, 3), Tags: []api.Tag{x}}, want)
	}
}

// P8.5: more than MaxTags tags, of which those that were taken off do not count.
func TestMergeFull(t *testing.T) {
	a := api.State{Seen: seen(100), Tags: manyTags(100, 0, "a", "b")}
	b := api.State{Seen: seen(0, 28), Tags: manyTags(28, 1, "a", "c")}
	want, e := merge(a, b)
	if len(want.Tags) != maxTags || e != api.OK {
		t.Fatal(want, e)
	}
	wantMerged(t, a, b, want)
	b = api.State{Seen: seen(0, 29), Tags: manyTags(29, 1, "a", "c")}
	wantApart(t, a, b, api.ErrFull)
	r := load(t, 5, a)
	wantErrno(t, api.ErrFull, r.Sync(b))
	wantState(t, r, a)
	wantNumber(t, 1)(r.Drop(20, "a"))
	wantErrno(t, api.OK, r.Sync(b))
	if l := r.State().Tags; len(l) != maxTags {
		t.Errorf("%d tags", len(l))
	}
	b.Seen[0] = 99
	wantErrno(t, api.OK, r.Sync(b))
	if l := r.State().Tags; len(l) != 30 {
		t.Errorf("%d tags", len(l))
	}
}

// overdrawn are two right states that are not right together: one knows that an office
// gave what it used, as the other one knows.
func overdrawn() (api.State, api.State) {
	a := api.State{Seen: seen(), Rights: []api.Right{right(4, 2, 2, 5), right(4, 2, 6, 3)}}
	b := api.State{Seen: seen(), Rights: []api.Right{right(4, 2, 2, 5)}, Used: []api.Used{used(4, 2, 3)}}
	return a, b
}

// P8.5: stocks that are not right together.
func TestMergeOverdrawn(t *testing.T) {
	a, b := overdrawn()
	wantApart(t, a, b, api.ErrState)
	r := load(t, 2, a)
	wantErrno(t, api.ErrState, r.Sync(b))
	wantState(t, r, a)
	b.Rights[0].Amount = 6
	want, e := merge(a, b)
	wantErrno(t, api.OK, e)
	wantMerged(t, a, b, want)
}

// P8.5: which error comes first.
func TestMergeErrors(t *testing.T) {
	a, b := overdrawn()
	a.Seen, b.Seen = seen(200), seen(0, 29)
	a.Tags, b.Tags = manyTags(100, 0, "a", "b"), manyTags(29, 1, "a", "c")
	wantApart(t, a, b, api.ErrFull)
	c := deep(b)
	c.Seen[0], c.Tags = 1, append([]api.Tag{tag(0, "0", 0, 1)}, c.Tags...)
	wantApart(t, a, c, api.ErrArg)
	c.Tags[0] = a.Tags[0]
	wantApart(t, a, c, api.ErrFull)
	c.Used[0].Amount = 6
	wantApart(t, a, c, api.ErrArg)
	wantApart(t, c, c, api.ErrArg)
	wantApart(t, a, api.State{}, api.ErrArg)
	wantApart(t, api.State{}, api.State{}, api.ErrArg)
	a.Tags, c.Tags, c.Used[0].Amount = nil, nil, 3
	wantApart(t, a, c, api.ErrState)
}

// P8.5: Merge and Sync of any two right states, and what is wrong with them together.
func TestMergeAny(t *testing.T) {
	count := map[api.Errno]int{}
	d := dice(85)
	for range 15000 {
		a, b := someState(&d), someState(&d)
		if d.next(30) == 0 {
			a.Seen[d.next(8)] = d.some(-1, maxCount+1)
		}
		if d.next(30) == 0 {
			b.Seen = b.Seen[:7]
		}
		want, wantE := merge(a, b)
		count[wantE]++
		if wantE != api.OK {
			wantApart(t, a, b, wantE)
		} else {
			wantMerged(t, a, b, want)
		}
		if r, e := replica.Load(d.next(8), a); e == api.OK {
			wantErrno(t, wantE, r.Sync(b))
			if wantE != api.OK {
				want = a
			}
			wantState(t, r, want)
		}
	}
	if count[api.OK] < 5000 || count[api.ErrArg] < 1000 || count[api.ErrState] < 300 {
		t.Errorf("errors came %v times", count)
	}
}

// P8.5: great states, which are often full together.
func TestMergeGreat(t *testing.T) {
	count := map[api.Errno]int{}
	d := dice(86)
	for range 300 {
		var l [2]api.State
		for i := range l {
			l[i].Seen = seen(d.next(60), d.next(60), d.next(60))
			l[i].Seen[i] += 60 + d.next(60)
			for office := range 3 {
				for n := range l[i].Seen[office] {
					if d.next(5) > 1 && len(l[i].Tags) < maxTags {
						l[i].Tags = append(l[i].Tags, tag(n%64, []string{"x", "yy", "00"}[n%3], office, n+1))
					}
				}
			}
			slices.SortFunc(l[i].Tags, func(x, y api.Tag) int {
				if tagBefore(x, y) {
					return -1
				}
				return 1
			})
		}
		want, wantE := merge(l[0], l[1])
		count[wantE]++
		if wantE != api.OK {
			wantApart(t, l[0], l[1], wantE)
		} else {
			wantMerged(t, l[0], l[1], want)
		}
	}
	if count[api.OK] < 50 || count[api.ErrFull] < 20 {
		t.Errorf("errors came %v times", count)
	}
}

// P8.6: whether a state covers another one, by each part alone.
func TestCovers(t *testing.T) {
	all := fullState()
	parts := []api.State{
		{Seen: all.Seen, Tags: all.Tags, Notes: all.Notes, Rights: all.Rights},
		{Seen: all.Seen, Tags: all.Tags, Notes: all.Notes[1:], Rights: all.Rights, Used: all.Used},
		{Seen: all.Seen, Tags: all.Tags, Notes: all.Notes, Rights: []api.Right{right(0, 0, 0, 8)}, Used: []api.Used{used(0, 0, 8)}},
		{Seen: seen(), Notes: all.Notes, Rights: all.Rights, Used: all.Used},
		{Seen: seen()},
	}
	for i, s := range parts {
		wantCovers(t, all, s, true)
		wantCovers(t, s, all, false)
		wantCovers(t, s, s, true)
		wantCovers(t, s, parts[len(parts)-1], true)
		wantCovers(t, parts[len(parts)-1], s, i == len(parts)-1)
	}
	wantCovers(t, all, all, true)
	// Who has taken a tag off knows more than who still has it.
	less := deep(all)
	less.Tags = less.Tags[1:]
	wantCovers(t, less, all, true)
	wantCovers(t, all, less, false)
}

func wantCovers(t *testing.T, a, b api.State, want bool) {
	t.Helper()
	if got, e := replica.Covers(a, b); got != want || e != api.OK {
		t.Fatalf("%v covers %v: %v, error %d; want %v", a, b, got, e, want)
	}
}

// P8.6: of any two right states, and of what they come to.
func TestCoversAny(t *testing.T) {
	yes, no := 0, 0
	d := dice(87)
	for range 8000 {
		a, b := someState(&d), someState(&d)
		m, e := merge(a, b)
		if e != api.OK {
			continue
		}
		wantCovers(t, m, a, true)
		wantCovers(t, m, b, true)
		for _, s := range []api.State{a, b} {
			wantCovers(t, s, m, same(s, m))
		}
		wantCovers(t, a, b, same(a, m))
		wantCovers(t, b, a, same(b, m))
		if same(a, m) || same(b, m) {
			yes++
		} else {
			no++
		}
	}
	if yes < 3 || no < 1000 {
		t.Errorf("%d times one covers the other, %d times none does", yes, no)
	}
}
