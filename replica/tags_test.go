package replica_test

import (
	"slices"
	"testing"

	"kimberlite/api"
	"kimberlite/replica"
)

// P8.2: Put puts on a tag with a new dot.
func TestPut(t *testing.T) {
	r := begin(t, 4)
	wantErrno(t, api.OK, r.Put(9, "b"))
	wantErrno(t, api.OK, r.Put(9, "a"))
	wantErrno(t, api.OK, r.Put(0, "z"))
	wantErrno(t, api.OK, r.Put(63, "0"))
	want := api.State{Seen: seen(0, 0, 0, 0, 4), Tags: []api.Tag{tag(0, "z", 4, 3), tag(9, "a", 4, 2), tag(9, "b", 4, 1), tag(63, "0", 4, 4)}}
	wantState(t, r, want)
	wantErrno(t, api.OK, r.Put(9, "b"))
	want.Seen[4], want.Tags[2] = 5, tag(9, "b", 4, 5)
	wantState(t, r, want)
}

// P8.2: Put takes off all tags of that stone and name, whoever put them on, and no
// others.
func TestPutAgain(t *testing.T) {
	r := load(t, 1, fullState())
	wantErrno(t, api.OK, r.Put(3, "a"))
	want := fullState()
	want.Seen[1] = 1
	want.Tags = []api.Tag{tag(0, "abcdefgh", 2, 4), tag(0, "b", 0, 3), tag(3, "a", 1, 1), tag(3, "b", 0, 2),
		tag(63, "0", 3, 1), tag(63, "0", 3, maxCount), tag(63, "9", 7, 1)}
	wantState(t, r, want)
	wantErrno(t, api.OK, r.Put(63, "0"))
	want.Seen[1] = 2
	want.Tags = append(want.Tags[:4], tag(63, "0", 1, 2), tag(63, "9", 7, 1))
	wantState(t, r, want)
}

// P8.2: what is no stone and no name.
func TestTagArguments(t *testing.T) {
	r := load(t, 0, fullState())
	for _, n := range anyInts() {
		for _, name := range append(badNames(), goodNames()...) {
			c := r.Copy()
			put := c.Put(n, name)
			gone, drop := c.Drop(n, name)
			if isStone(n) && isName(name) {
				wantErrno(t, api.OK, put)
				if gone != 1 || drop != api.OK {
					t.Fatalf("Drop(%d, %q): %d, error %d", n, name, gone, drop)
				}
				continue
			}
			if put != api.ErrArg || gone != 0 || drop != api.ErrArg {
				t.Fatalf("Put(%d, %q): error %d; Drop: %d, error %d", n, name, put, gone, drop)
			}
			wantState(t, c, fullState())
		}
		if names, e := r.Has(n); isStone(n) != (e == api.OK) || !isStone(n) && (len(names) > 0 || e != api.ErrArg) {
			t.Fatalf("Has(%d): %v, error %d", n, names, e)
		}
	}
}

// P8.2: no more than MaxTags tags, but one that is there may be put on again.
func TestPutFull(t *testing.T) {
	full := api.State{Seen: seen(0, maxTags), Tags: manyTags(maxTags, 1, "a", "b", "c")}
	r := load(t, 0, full)
	wantErrno(t, api.ErrFull, r.Put(60, "a"))
	wantErrno(t, api.ErrFull, r.Put(0, "d"))
	wantErrno(t, api.ErrArg, r.Put(64, "a"))
	wantErrno(t, api.ErrArg, r.Put(60, "A"))
	wantState(t, r, full)
	wantErrno(t, api.OK, r.Put(0, "b"))
	full.Seen[0], full.Tags[1] = 1, tag(0, "b", 0, 1)
	wantState(t, r, full)
	wantNumber(t, 1)(r.Drop(5, "a"))
	wantErrno(t, api.OK, r.Put(60, "a"))
	wantErrno(t, api.ErrFull, r.Put(60, "b"))
	if s := r.State(); len(s.Tags) != maxTags || s.Seen[0] != 2 {
		t.Errorf("state %v", s)
	}
}

// P8.2: a full replica in which tags of one stone and name stand side by side.
func TestPutFullAgain(t *testing.T) {
	full := api.State{Seen: seen(maxTags)}
	for i := range maxTags {
		full.Tags = append(full.Tags, tag(i/4, "a", 0, i+1))
	}
	r := load(t, 0, full)
	wantErrno(t, api.ErrFull, r.Put(0, "b"))
	wantErrno(t, api.ErrFull, r.Put(32, "a"))
	wantErrno(t, api.OK, r.Put(31, "a"))
	if s := r.State(); len(s.Tags) != maxTags-3 || s.Tags[maxTags-4] != tag(31, "a", 0, maxTags+1) {
		t.Errorf("tags %v", s.Tags)
	}
	for range 3 {
		wantErrno(t, api.OK, r.Put(32, "a"))
	}
	wantErrno(t, api.OK, r.Put(33, "a"))
	wantErrno(t, api.OK, r.Put(34, "a"))
	wantErrno(t, api.ErrFull, r.Put(35, "a"))
}

// P8.2: no more than MaxCount events of an office; ErrFull comes first.
func TestPutRange(t *testing.T) {
	r := load(t, 3, api.State{Seen: seen(maxCount, 0, 0, maxCount-1)})
	wantErrno(t, api.OK, r.Put(1, "a"))
	want := api.State{Seen: seen(maxCount, 0, 0, maxCount), Tags: []api.Tag{tag(1, "a", 3, maxCount)}}
	wantErrno(t, api.ErrRange, r.Put(1, "a"))
	wantErrno(t, api.ErrRange, r.Put(2, "a"))
	wantErrno(t, api.ErrArg, r.Put(1, ""))
	wantErrno(t, api.ErrArg, r.Put(-1, "a"))
	wantState(t, r, want)
	wantNumber(t, 1)(r.Drop(1, "a"))
	wantErrno(t, api.ErrRange, r.Put(1, "a"))

	full := api.State{Seen: seen(maxTags, maxCount), Tags: manyTags(maxTags, 0, "a", "b")}
	r = load(t, 1, full)
	wantErrno(t, api.ErrFull, r.Put(63, "c"))
	wantErrno(t, api.ErrArg, r.Put(63, "C"))
	wantErrno(t, api.ErrRange, r.Put(63, "b"))
	wantState(t, r, full)
}

// P8.2: Drop takes off all that is known, counts it, and uses no dot.
func TestDrop(t *testing.T) {
	r := load(t, 5, fullState())
	want := fullState()
	wantNumber(t, 0)(r.Drop(3, "c"))
	wantNumber(t, 0)(r.Drop(4, "a"))
	wantNumber(t, 0)(r.Drop(0, "abcdefg"))
	wantState(t, r, want)
	wantNumber(t, 3)(r.Drop(3, "a"))
	want.Tags = append(want.Tags[:2], want.Tags[5:]...)
	wantState(t, r, want)
	wantNumber(t, 0)(r.Drop(3, "a"))
	wantNumber(t, 2)(r.Drop(63, "0"))
	wantNumber(t, 1)(r.Drop(0, "abcdefgh"))
	want.Tags = []api.Tag{tag(0, "b", 0, 3), tag(3, "b", 0, 2), tag(63, "9", 7, 1)}
	wantState(t, r, want)
	wantErrno(t, api.OK, r.Put(3, "a"))
	if s := r.State(); s.Seen[5] != 1 {
		t.Errorf("Drop used a dot: %v", s.Seen)
	}
}

// P8.2: Has gives each name once, in order, and of one stone only.
func TestHas(t *testing.T) {
	r := load(t, 6, fullState())
	wantNames(t, r, 0, "abcdefgh", "b")
	wantNames(t, r, 1)
	wantNames(t, r, 3, "a", "b")
	wantNames(t, r, 63, "0", "9")
	r = begin(t, 0)
	names := goodNames()
	for _, name := range names {
		wantNames(t, r, 62)
		wantErrno(t, api.OK, r.Put(63, name))
		wantErrno(t, api.OK, r.Put(0, name))
	}
	slices.Sort(names)
	wantNames(t, r, 63, names...)
	wantNames(t, r, 0, names...)
}

// Example 1 of the chapter: a tag that was not known is not taken off.
func TestTagExample(t *testing.T) {
	for _, syncs := range []bool{false, true} {
		zero, one := begin(t, 0), begin(t, 1)
		wantErrno(t, api.OK, zero.Put(5, "a"))
		wantErrno(t, api.OK, one.Put(5, "a"))
		want := api.State{Seen: seen(1, 1), Tags: []api.Tag{tag(5, "a", 0, 1)}}
		if syncs {
			wantErrno(t, api.OK, one.Sync(zero.State()))
			wantNumber(t, 2)(one.Drop(5, "a"))
			want.Tags = nil
		} else {
			wantNumber(t, 1)(one.Drop(5, "a"))
		}
		wantMerged(t, zero.State(), one.State(), want)
	}
}

// P8.2: a tag that was put on while another office took it off is there again; and of
// two that were put on at the same time, both dots are.
func TestPutWhileDropped(t *testing.T) {
	zero, one := begin(t, 0), begin(t, 1)
	wantErrno(t, api.OK, zero.Put(5, "a"))
	wantErrno(t, api.OK, one.Sync(zero.State()))
	wantErrno(t, api.OK, zero.Put(5, "a"))
	wantNumber(t, 1)(one.Drop(5, "a"))
	wantErrno(t, api.OK, one.Sync(zero.State()))
	wantState(t, one, api.State{Seen: seen(2), Tags: []api.Tag{tag(5, "a", 0, 2)}})
	wantErrno(t, api.OK, one.Put(5, "a"))
	wantErrno(t, api.OK, zero.Put(5, "a"))
	wantErrno(t, api.OK, zero.Sync(one.State()))
	wantState(t, zero, api.State{Seen: seen(3, 1), Tags: []api.Tag{tag(5, "a", 0, 3), tag(5, "a", 1, 1)}})
	wantNames(t, zero, 5, "a")
	if ok, e := replica.Covers(zero.State(), one.State()); !ok || e != api.OK {
		t.Error(ok, e)
	}
}
