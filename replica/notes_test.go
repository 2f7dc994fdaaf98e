package replica_test

import (
	"strings"
	"testing"

	"kimberlite/api"
)

// P8.3: the Time is one above the greatest of all notes, of any stone and office.
func TestWrite(t *testing.T) {
	r := begin(t, 6)
	wantErrno(t, api.OK, r.Write(9, "nine"))
	wantErrno(t, api.OK, r.Write(0, "zero"))
	wantErrno(t, api.OK, r.Write(63, ""))
	want := api.State{Seen: seen(), Notes: []api.Note{note(0, "zero", 2, 6), note(9, "nine", 1, 6), note(63, "", 3, 6)}}
	wantState(t, r, want)
	wantErrno(t, api.OK, r.Write(9, "nine"))
	want.Notes[1] = note(9, "nine", 4, 6)
	wantState(t, r, want)
	wantErrno(t, api.OK, r.Sync(api.State{Seen: seen(), Notes: []api.Note{note(7, "seven", 70, 7), note(9, "old", 3, 7)}}))
	wantErrno(t, api.OK, r.Write(9, ""))
	want.Notes = []api.Note{note(0, "zero", 2, 6), note(7, "seven", 70, 7), note(9, "", 71, 6), note(63, "", 3, 6)}
	wantState(t, r, want)

	r = load(t, 1, fullState())
	wantErrno(t, api.OK, r.Write(5, "five"))
	l := r.State().Notes
	if len(l) != 4 || l[1] != note(5, "five", 13, 1) {
		t.Errorf("notes %v", l)
	}
}

// P8.3: all stones have notes, and each its own.
func TestWriteAll(t *testing.T) {
	r := begin(t, 0)
	for i := range 64 {
		wantNoText(t, r, 63-i, api.OK)
		wantErrno(t, api.OK, r.Write(63-i, strings.Repeat("n", i%33)))
	}
	for i, n := range r.State().Notes {
		if n != note(i, strings.Repeat("n", (63-i)%33), 64-i, 0) {
			t.Errorf("note %d is %v", i, n)
		}
		wantText(t, r, i, n.Text)
	}
}

// P8.3: what is no stone, and texts of all lengths.
func TestNoteArguments(t *testing.T) {
	r := begin(t, 2)
	for _, n := range anyInts() {
		if isStone(n) {
			wantErrno(t, api.OK, r.Write(n, "here"))
			wantText(t, r, n, "here")
			continue
		}
		wantErrno(t, api.ErrArg, r.Write(n, "here"))
		wantErrno(t, api.ErrArg, r.Write(n, strings.Repeat("x", 33)))
		wantNoText(t, r, n, api.ErrArg)
	}
	for length := range 70 {
		// Bytes are counted, not letters.
		text := strings.Repeat("é", 35)[:length]
		c, before := r.Copy(), r.State()
		if length <= 32 {
			wantErrno(t, api.OK, c.Write(3, text))
			wantText(t, c, 3, text)
		} else {
			wantErrno(t, api.ErrArg, c.Write(3, text))
			wantState(t, c, before)
		}
	}
	for _, text := range []string{"", "\x00", "\xff\xfe", "two\nlines", "ABC $%"} {
		wantErrno(t, api.OK, r.Write(3, text))
		wantText(t, r, 3, text)
	}
}

// P8.3: no Time above MaxCount, whichever stone it is.
func TestWriteRange(t *testing.T) {
	r := load(t, 0, api.State{Seen: seen(), Notes: []api.Note{note(3, "three", maxCount-1, 5)}})
	wantErrno(t, api.OK, r.Write(2, "two"))
	want := api.State{Seen: seen(), Notes: []api.Note{note(2, "two", maxCount, 0), note(3, "three", maxCount-1, 5)}}
	wantState(t, r, want)
	for stone := range 5 {
		wantErrno(t, api.ErrRange, r.Write(stone, "more"))
		wantErrno(t, api.ErrArg, r.Write(stone, strings.Repeat("x", 33)))
		wantErrno(t, api.ErrArg, r.Write(stone-5, "more"))
	}
	wantState(t, r, want)
}

// P8.3: Read, of an empty text and of none.
func TestRead(t *testing.T) {
	r := load(t, 3, fullState())
	wantText(t, r, 0, "")
	wantText(t, r, 7, strings.Repeat("x", 32))
	wantText(t, r, 63, "\xff\x00")
	wantNoText(t, r, 1, api.OK)
	wantNoText(t, r, 62, api.OK)
	wantNoText(t, begin(t, 0), 0, api.OK)
}
