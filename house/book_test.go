package house_test

import (
	"fmt"
	"slices"
	"strings"
	"testing"

	"kimberlite/api"
	"kimberlite/house"
	"kimberlite/proof"
)

// P10.11 and P10.12: the log, the book, Read, Run, Audit and Copy.

// P10.11: what is in the book and in the log, and as which words.
func TestBook(t *testing.T) {
	h := house.New()
	want(t, h, "  stone   5    1.1.1 ", "stone 1", "stone 5 1.1.12", "! 2", "stones a", "! 6", "parcel a 2", "! 6", "parcel a x", "? word 2", "fly", "? line", "", "", "parcel  a  1", "ok",
		"parcels", "a", "if day 5", "ok", "prove 5", "! 6", "sieve a b 1..2,5..6", "1", "day 0", "ok", "day 0", "ok", "move 1 2  3", "0 0")
	book := []string{"stone 5 1.1.1", "parcel a 1", "sieve a b 1..2,5..6", "day 0", "day 0", "move 1 2 3"}
	if got := h.Book(); !slices.Equal(got, book) {
		t.Fatalf("book %q", got)
	}
	l := h.Log()
	for i, line := range book {
		if got, e := l.Entry(i); string(got) != line || e != api.OK {
			t.Errorf("entry %d: %q, error %d", i, got, e)
		}
	}
	var entries [][]byte
	for _, line := range book {
		entries = append(entries, []byte(line))
	}
	root, _ := proof.Root(entries)
	if l.Len() != len(book) || l.Root() != root || h.Audit().Root != root {
		t.Errorf("%d entries, root %d; want %d", l.Len(), l.Root(), root)
	}
}

// P10.11: Log is a copy, also of a log that has no entries yet.
func TestLog(t *testing.T) {
	h := house.New()
	for range 4 {
		n, l := len(h.Book()), h.Log()
		l.Add([]byte("day 5"))
		if h.Log().Len() != n || len(h.Book()) != n || h.Audit().Commands != n || l.Len() != n+1 {
			t.Fatalf("book %q, %d entries", h.Book(), l.Len())
		}
		do(t, h, "move 0 1 5")
		if l.Len() != n+1 {
			t.Fatalf("%d entries", l.Len())
		}
	}
}

// P10.11: a log that is full, which comes after all other errors.
func TestLogFull(t *testing.T) {
	h := built(t, "stone 5 1.1.1;stone 6 1.1.1;stone 7 1.1.1;parcel a 1;parcel b 2;parcel d 3;grant 0 1 3 9 -1;grant 1 1 1 9 -1;open 0 1 0 2 1;store b 0;tender d")
	fill(t, h, 2)
	want(t, h, "move 7 7 1", "0 0", "if day 5", "ok", "day 0", "ok", "day 0", "! 8")
	// None of these changes anything that can be seen, not even as the first of several.
	changes := []string{"stone 5 1.1.1", "sieve a c 5..6", "class a c 1.1.1", "pass 1 0 2 1 1 9 -1", "grant 3 1 1 9 -1", "revoke 1 0", "lock 0", "fetch b", "store a 0",
		"seal 1 5", "shut", "move 0 1 5", "day 5"}
	wantRefused(t, h, api.ErrFull, changes...)
	for _, line := range changes {
		want(t, h, "if "+line, "! 8", "if if "+line, "! 8")
	}
	wantRefused(t, h, api.ErrArg, "stone 0 1.1.1", "class a c 1.1.12", "grant 3 1 0 9 -1", "lock 16", "store a 16", "seal 0 5", "move 0 8 5", "day -1", "join a a")
	wantRefused(t, h, api.ErrNone, "parcel c 4", "sieve c e 1..2", "pass 4 0 2 1 1 9 -1", "revoke 4 0", "fetch c")
	wantRefused(t, h, api.ErrState, "parcel c 1", "sieve b c 6..7", "fetch a", "open 0 1 0 2 1", "tender a", "close", "sieve d c 7..8")
	wantRefused(t, h, api.ErrKey, "if store a 1", "store a 1")
	want(t, h, "stones a", "hand 1", "balance 1", "0", "fly", "? line", "stone 5 x", "? word 2", "prove 4096", "! 6", "could 3", "1")
	if !strings.HasPrefix(h.Exec("prove 4095"), fmt.Sprint(h.Log().Root(), " L")) || len(h.Book()) != maxEntries {
		t.Errorf("%d commands, %q", len(h.Book()), h.Exec("prove 4095"))
	}
	if again, n, e := house.Read(h.Book()); n != 0 || e != api.OK || again.Log().Root() != h.Log().Root() {
		t.Errorf("read again: %d, error %d", n, e)
	}
	if again, n, e := house.Read(append(h.Book(), "day 0")); again != nil || n != maxEntries+1 || e != api.ErrFull {
		t.Errorf("one more: %d, error %d", n, e)
	}
	if _, n, e := house.Read(append(h.Book(), "day -1")); n != maxEntries+1 || e != api.ErrArg {
		t.Errorf("one more: %d, error %d", n, e)
	}
}

// P10.11: a tender that is shut, and a log that is full.
func TestCloseFull(t *testing.T) {
	h := built(t, "stone 5 1.1.1;parcel a 1;tender a;"+offer(1, 5, 1, 10)+";"+offer(2, 5, 1, 7)+";shut;"+showing(1, 5, 1, 10)+";"+showing(2, 5, 1, 7))
	fill(t, h, 0)
	wantRefused(t, h, api.ErrFull, "close", "if close")
	wantRefused(t, h, api.ErrExists, "show 1 5 1 10")
	wantRefused(t, h, api.ErrState, "tender a")
	want(t, h, "stones a", "hand 1", "balance 1", "0")
}

// P10.11: which books can be read.
func TestRead(t *testing.T) {
	for _, book := range [][]string{nil, {}, {"day 5"}, {" stone  5 1.1.1", "parcel   a 1 ", "sieve a b 5..6"}} {
		h, n, e := house.Read(book)
		if h == nil || n != 0 || e != api.OK || len(h.Book()) != len(book) {
			t.Fatalf("%q: %d, error %d", book, n, e)
		}
		for i, line := range h.Book() {
			if line != strings.Join(strings.Fields(book[i]), " ") {
				t.Errorf("book %q; want %q", h.Book(), book)
			}
		}
	}
	first := []string{"stone 5 1.1.1", "parcel a 1", "grant 0 1 1 9 -1", "move 0 1 5"}
	for line, want := range map[string]api.Errno{
		"": api.ErrForm, " ": api.ErrForm, strings.Repeat(" ", maxLine+1): api.ErrForm, "fly": api.ErrForm, "stone 5": api.ErrForm, "stone 5 1.1": api.ErrForm, "day 5\n": api.ErrForm, "day\t5": api.ErrForm,
		"day 5" + strings.Repeat(" ", maxLine): api.ErrForm, "parcels": api.ErrForm, "stones a": api.ErrForm, "stones b": api.ErrForm, "pairs a 1 1.1.1": api.ErrForm, "pairs a -1 1.1.1": api.ErrForm,
		"width a": api.ErrForm, "width b": api.ErrForm, "could 1": api.ErrForm, "could -1": api.ErrForm, "balance 0": api.ErrForm, "balance 8": api.ErrForm, "prove 0": api.ErrForm, "prove 9": api.ErrForm,
		"audit": api.ErrForm, "if": api.ErrForm, "if day 5": api.ErrForm, "if day -1": api.ErrForm, "if fly": api.ErrForm, "if if day 5": api.ErrForm, "day x": api.ErrForm,
		"stone 0 1.1.1": api.ErrArg, "parcel b 2": api.ErrNone, "parcel a 1": api.ErrExists, "parcel b 1": api.ErrState, "sieve a b -": api.ErrPlan, "store a 0": api.ErrKey, "open 0 1 0 1 0": api.ErrKey,
		"pass 1 0 1 1 1 9 -1": api.ErrRight, "close": api.ErrNone, "  day   -1 ": api.ErrArg,
	} {
		for n := range len(first) {
			book := append(slices.Insert(slices.Clone(first), len(first)-n, line), line)
			if n > 0 && want != api.ErrForm {
				continue
			}
			if h, got, e := house.Read(book); h != nil || got != len(first)-n+1 || e != want {
				t.Errorf("%q: %d, error %d; want %d, error %d", book, got, e, len(first)-n+1, want)
			}
		}
	}
}

// P10.12: Run.
func TestRun(t *testing.T) {
	for _, c := range [][2]string{
		{"", ""}, {"\n", ""}, {"\n\n  \n", ""}, {"day 5", "ok\n"}, {"day 5\n", "ok\n"}, {"day 5\n\nday 4\n", "ok\n! 9\n"}, {"\nday 5\n   \nday 5\n ", "ok\nok\n"},
		{"stone 5 1.1.1\nparcel a 1\nstones a", "stone 1\nok\nhand 1\n"}, {"parcels\n", "\n"}, {"parcels\nparcels", "\n\n"}, {"fly\n", "? line\n"}, {"day x\nday 1", "? word 1\nok\n"},
		{"day 5\r\nday 6", "? line\nok\n"}, {"\r\n", "? line\n"}, {"day 1\tx\n", "? line\n"}, {"if\nif day 5\n", "? line\nok\n"}, {strings.Repeat(" ", 300) + "\nday 1", "ok\n"},
		{strings.Repeat("a", 300) + "\nday 1", "? line\nok\n"}, {"day 1\x00\nday 1", "? line\nok\n"},
	} {
		if got := house.New().Run(c[0]); got != c[1] {
			t.Errorf("%q: %q; want %q", c[0], got, c[1])
		}
	}
	h := house.New()
	h.Run("stone 5 1.1.1\n\nstone 6 1.1.1\nfly\nstone 7 1.1.1")
	if got := h.Run("parcel a 3\nstones a\nparcel b 3\nparcels"); got != "ok\nhand 3\n! 9\na\n" || len(h.Book()) != 4 {
		t.Errorf("%q, book %q", got, h.Book())
	}
}

// P10.12: what an audit counts.
func TestAudit(t *testing.T) {
	h := house.New()
	step := func(lines string, want api.Audit) {
		t.Helper()
		do(t, h, lines)
		want.Root, want.Good = h.Log().Root(), true
		if got := h.Audit(); got != want {
			t.Fatalf("%q: %v; want %v", lines, got, want)
		}
	}
	step("stone 5 1.1.1;stone 6 1.1.1;stone 7 2.2.2", api.Audit{Commands: 3, Stones: 3, Loose: 3})
	step("parcel a 1 3", api.Audit{Commands: 4, Stones: 3, Loose: 1, Parcels: 1})
	step("sieve a b 5..6", api.Audit{Commands: 5, Stones: 3, Loose: 1, Parcels: 2})
	step("stones a;if sieve a c 7..8;if stone 5 1.1.1;width a", api.Audit{Commands: 5, Stones: 3, Loose: 1, Parcels: 2})
	step("parcel c 2;join c b", api.Audit{Commands: 7, Stones: 3, Parcels: 2})
	step("grant 0 1 1 9 -1;grant 1 1 1 9 -1;open 0 1 0 2 1;store a 0", api.Audit{Commands: 11, Stones: 3, Parcels: 2})
	step("tender a b;"+offer(3, 1, 2, 100)+";"+offer(4, 1, 2, 60)+";shut;"+showing(3, 1, 2, 100)+";"+showing(4, 1, 2, 60)+";close", api.Audit{Commands: 18, Stones: 3, Parcels: 2, Sold: 2})
	step("move 3 4 500 0 1 1;stone 5 1.1.1", api.Audit{Commands: 20, Stones: 4, Loose: 1, Parcels: 2, Sold: 2})
	step("tender a;"+offer(3, 1, 1, 100)+";shut;"+showing(3, 1, 1, 100)+";close", api.Audit{Commands: 25, Stones: 4, Loose: 1, Parcels: 2, Sold: 3})
	wantBalances(t, h, 59, 1, 0, -560, 500, 0, 0, 0)
}

// P10.12: a copy is a house of its own.
func TestCopy(t *testing.T) {
	lines := strings.Split("stone 5 1.1.1;stone 6 1.1.1;stone 7 1.1.1;parcel a 1 2;parcel b 3;grant 0 3 3 9 5;grant 1 3 1 9 -1;open 0 1 0 2 1;store a 0;open 1 1 0 2 1;sieve b c 7..8;"+
		"tender c;"+offer(1, 5, 1, 10)+";"+offer(2, 5, 1, 6)+";shut;"+showing(1, 5, 1, 10)+";"+showing(2, 5, 1, 6)+";close;move 0 1 3;fetch a;sieve a d 5..6;join a d;lock 0;pass 1 0 3 1 1 9 3;day 2;revoke 1 0", ";")
	for i := range lines {
		h := built(t, strings.Join(lines[:i+1], ";"))
		before := shown(h)
		c := h.Copy()
		if got := shown(c); got != before {
			t.Fatalf("a copy behind %q:\n%swant:\n%s", lines[i], got, before)
		}
		for _, line := range lines[i+1:] {
			do(t, c, line)
		}
		if got := shown(h); got != before {
			t.Fatalf("behind %q, and more in a copy:\n%swant:\n%s", lines[i], got, before)
		}
		// And the other way round.
		after := shown(c)
		for _, line := range lines[i+1:] {
			do(t, h, line)
		}
		if shown(h) != after {
			t.Fatalf("behind %q, a copy went:\n%sthe house:\n%s", lines[i], after, shown(h))
		}
		do(t, h, "stone 9 9.9.9;day 3;parcel new 4;grant 0 3 3 9 5;move 0 5 5")
		if got := shown(c); got != after {
			t.Fatalf("behind %q, and more in the house:\n%swant:\n%s", lines[i], got, after)
		}
	}
}
