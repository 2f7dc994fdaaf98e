package house_test

import (
	"slices"
	"strings"
	"testing"

	"kimberlite/api"
	"kimberlite/house"
)

// Rules 2 to 5 of DOC.md, P1 and P2: what holds for all functions of the package.

// Rule 3, P10.12: a house that is nil, or that no function returned.
func TestNil(t *testing.T) {
	for _, h := range []*house.House{nil, {}, new(house.House)} {
		for _, line := range []string{"", "audit", "parcels", "stone 5 1.1.1", "fly", "if audit", "day x", strings.Repeat("a", maxLine+1), "\n", "audit\naudit\n"} {
			if r, s := h.Exec(line), h.Run(line); r != "" || s != "" {
				t.Errorf("%q: %q, %q", line, r, s)
			}
		}
		if h.Book() != nil || h.Log() != nil || h.Copy() != nil || h.Audit() != (api.Audit{}) {
			t.Errorf("book %q, log %v, copy %v, audit %v", h.Book(), h.Log(), h.Copy(), h.Audit())
		}
	}
	if c := house.New().Copy(); c == nil || c.Exec("stone 5 1.1.1") != "stone 1" {
		t.Error("a copy of a new house is none")
	}
	if h, n, e := house.Read(nil); h == nil || n != 0 || e != api.OK {
		t.Errorf("an empty book: %d, error %d", n, e)
	}
}

// P1: any bytes, as lines, texts and books.
func TestAnyBytes(t *testing.T) {
	parts := []string{"stone", "parcel", "sieve", "if", "move", "show", "tender", " ", "  ", "1", "a", "-", "..", "1..2", ",", ".", "1.1.1", "18446744073709551615", "\n", "\xff", "é", "\x00", "-1", "99999999999999999999"}
	d := dice(77)
	h := house.New()
	for range 20000 {
		var line strings.Builder
		for range d.next(12) {
			line.WriteString(some(&d, parts...))
			line.WriteString(some(&d, " ", " ", ""))
		}
		s := line.String()
		reply := h.Exec(s)
		if h.Run(s); strings.Contains(reply, "\n") {
			t.Fatalf("%q: %q", s, reply)
		}
		house.Read([]string{"stone 5 1.1.1", s})
	}
	if a := h.Audit(); !a.Good || a.Commands != len(h.Book()) {
		t.Errorf("audit %v", a)
	}
}

// Rule 4: what is given and what is given away is nobody's memory.
func TestMemory(t *testing.T) {
	book := []string{"stone 5 1.1.1", " stone  6 1.1.1", "parcel a 1 2", "sieve a b 5..6"}
	given := slices.Clone(book)
	h, _, _ := house.Read(book)
	if !slices.Equal(book, given) {
		t.Fatalf("given %q, and now %q", given, book)
	}
	before := shown(h)
	for i := range book {
		book[i] = "day 7"
	}
	for range 3 {
		l := h.Book()
		l = l[:cap(l)]
		for i := range l {
			l[i] = "day 8"
		}
		entry, _ := h.Log().Entry(0)
		copy(entry, "xxxxxxxx")
		if after := shown(h); after != before {
			t.Fatalf("before:\n%sthen:\n%s", before, after)
		}
	}
	kept := h.Book()
	do(t, h, "day 1;stone 5 1.1.1")
	if len(kept) != 4 || kept[1] != "stone 6 1.1.1" {
		t.Errorf("given away, and now %q", kept)
	}
}

// Rule 2: a line that is refused changes nothing, whatever it is, and uses up no number.
func TestRefusedChangesNothing(t *testing.T) {
	for round := range 25 {
		d := dice(11000 + round)
		w := newWalker(t, &d)
		for range 250 {
			n, before := len(w.h.Book()), shown(w.h)
			w.step()
			if len(w.h.Book()) == n && shown(w.h) != before {
				t.Fatalf("before:\n%sthen:\n%s", before, shown(w.h))
			}
		}
	}
}

// P2: the same lines have the same replies, in any house.
func TestSameAgain(t *testing.T) {
	d := dice(5)
	w := newWalker(t, &d)
	for range 600 {
		w.step()
	}
	text := strings.Join(w.h.Book(), "\nparcels\naudit\n") + "\nmove 0 1 5 1 2 5 2 3 5 3 4 5 4 5 5 5 0 5\nprove 3\n"
	first := house.New().Run(text)
	for range 5 {
		if again := house.New().Run(text); again != first {
			t.Fatalf("first:\n%sthen:\n%s", first, again)
		}
	}
}

// P2: houses at the same time do not touch each other.
func TestHousesAtOnce(t *testing.T) {
	for n := range 6 {
		t.Run(string(rune('a'+n)), func(t *testing.T) {
			t.Parallel()
			d := dice(12000 + n)
			w := newWalker(t, &d)
			for range 300 {
				w.step()
			}
			w.wantSame()
		})
	}
}
