package house_test

import (
	"fmt"
	"strings"
	"testing"

	"kimberlite/api"
	"kimberlite/house"
	"kimberlite/proof"
)

// P10.9 and P10.10: commands that only look, and what if.

// P10.9: parcels and stones.
func TestListing(t *testing.T) {
	h := built(t, repeat("stone 5 1.1.1", 12))
	want(t, h, "parcels", "", "parcel b 10 9 12", "ok", "parcel a1 1", "ok", "parcel a 2", "ok", "parcel z 11 3", "ok", "parcel a0 4", "ok", "parcel ab 5", "ok",
		"parcels", "a a0 a1 ab b z", "stones b", "hand 9 10 12", "stones z", "hand 3 11", "stones a", "hand 2")
	wantAll(t, h, "! 6", "stones c", "stones a2", "stones aa", "stones hand")
	if got := h.Run("parcels\nstones c\nstones a\n"); got != "a a0 a1 ab b z\n! 6\nhand 2\n" {
		t.Errorf("%q", got)
	}
}

// P10.9: pairs are those of Match, by the numbers of the stones.
func TestPairs(t *testing.T) {
	// The parcel a is a path of the stones 2, 3, 5, 6, by their sizes; 7 is alone.
	h := built(t, "stone 1 9.9.9;stone 10 1.1.1;stone 12 2.1.1;stone 1 9.9.9;stone 14 2.2.1;stone 16 2.2.2;stone 40 2.2.2;parcel a 7 6 5 3 2;parcel b 1;parcel c 4")
	want(t, h, "pairs a 2 1.1.1", "2 2:3 5:6", "pairs a 1 11.11.11", "0", "pairs a 2 0.0.0", "0", "pairs a 2 1.0.0", "1 2:3", "pairs a 2 0.1.1", "1 3:5", "pairs b 5 1.1.1", "0")
	want(t, h, "pairs a 4 2.2.2", "2 2:3 5:6", "pairs a 24 1.1.1", "2 2:3 5:6", "pairs a 24 2.2.2", "2 2:3 5:6", "pairs a 1073741824 11.11.11", "2 2:3 5:6", "pairs a 0 0.0.0", "0")
	wantAll(t, h, "! 6", "pairs d 2 1.1.1", "pairs d -1 12.0.0")
	wantAll(t, h, "! 2", "pairs a -1 1.1.1", "pairs a 1073741825 1.1.1", "pairs a 2 12.1.1", "pairs a 2 1.-1.1", "pairs b 2 1.1.12", "pairs b -1 0.0.0")
	do(t, h, "join b c")
	want(t, h, "pairs c 0 0.0.0", "1 1:4")
}

// many is a house with the parcel a of so many stones, of the same size and grade.
func many(t *testing.T, n int) *house.House {
	t.Helper()
	h := built(t, repeat("stone 5 1.1.1", n)+";parcel a 1")
	for i := 2; i <= n; i++ {
		do(t, h, fmt.Sprintf("parcel b %d;join b a", i))
	}
	return h
}

// P10.9: the errors of Edges, in their order.
func TestPairsLimits(t *testing.T) {
	want(t, many(t, 16), "pairs a 0 0.0.0", "8 1:2 3:4 5:6 7:8 9:10 11:12 13:14 15:16")
	h := many(t, 17)
	want(t, h, "pairs a 0 0.0.0", "! 8", "pairs a -1 0.0.0", "! 2", "pairs a 0 0.0.12", "! 2")
	h = many(t, 24)
	want(t, h, "pairs a 0 0.0.0", "! 8", "stone 5 1.1.1", "stone 25", "parcel b 25", "ok", "join b a", "1")
	wantAll(t, h, "! 3", "pairs a 0 0.0.0", "pairs a -1 0.0.0", "pairs a 0 12.0.0")
	// As many stones as there may be, none of which go together.
	h = built(t, "stone 1 1.1.1;parcel a 1")
	for i := 2; i <= 24; i++ {
		do(t, h, fmt.Sprintf("stone %d 1.1.1;parcel b %d;join b a", i, i))
	}
	want(t, h, "pairs a 0 11.11.11", "0", "pairs a 1 0.0.0", "12 1:2 3:4 5:6 7:8 9:10 11:12 13:14 15:16 17:18 19:20 21:22 23:24")
}

// P10.9: width is that of grade, by the numbers of the stones.
func TestWidth(t *testing.T) {
	h := built(t, "stone 1 9.9.9;stone 1 0.0.1;stone 1 5.5.5;stone 1 0.1.0;stone 1 0.1.1;stone 1 1.0.0;stone 1 0.1.1;parcel a 7 5 4 2;parcel b 1 3;parcel c 6")
	want(t, h, "width a", "2 2 4", "width b", "1 1", "width c", "1 6", "join c a", "1", "width a", "3 2 4 6", "join b a", "2", "width a", "3 2 4 6", "width d", "! 6")
	do(t, h, "class a d 0.1.1")
	// Of two stones of one grade the one of the lower number comes before the other.
	want(t, h, "stones d", "hand 1 3 5 7", "width d", "1 1", "sieve a e 0..9", "3", "width e", "3 2 4 6")
}

// P10.9: the error of Width.
func TestWidthLimits(t *testing.T) {
	h := many(t, 32)
	want(t, h, "width a", "1 32", "stone 5 1.1.1", "stone 33", "parcel b 33", "ok", "join b a", "1", "width a", "! 3", "width b", "! 6")
}

// P10.9: balance.
func TestBalance(t *testing.T) {
	h := built(t, "move 1 2 5 3 4 7 5 6 9 7 0 11")
	want(t, h, "balance 0", "11", "balance 1", "-5", "balance 2", "5", "balance 3", "-7", "balance 4", "7", "balance 5", "-9", "balance 6", "9", "balance 7", "-11")
	wantAll(t, h, "! 2", "balance 8", "balance -1", "balance "+maxNumber, "balance -"+maxNumber)
}

// P10.9: what prove replies proves the entry.
func TestProve(t *testing.T) {
	h := house.New()
	wantAll(t, h, "! 6", "prove 0", "prove -1", "prove 1")
	for n := 1; n <= 40; n++ {
		do(t, h, fmt.Sprint("move 0 1 ", n))
		root := h.Log().Root()
		for i := range n {
			wantProven(t, h, i, n, root)
		}
		wantAll(t, h, "! 6", fmt.Sprint("prove ", n), "prove -1", "prove "+maxNumber, "prove -"+maxNumber)
	}
	a, b := proof.Leaf([]byte("day 1")), proof.Leaf([]byte("day 2"))
	h = built(t, "day   1 ")
	want(t, h, "prove 0", fmt.Sprint(a), "day 2", "ok", "prove 0", fmt.Sprint(proof.Node(a, b), " R", b), "prove 1", fmt.Sprint(proof.Node(a, b), " L", a))
}

func wantProven(t *testing.T, h *house.House, i, n int, root uint64) {
	t.Helper()
	l := strings.Fields(h.Exec(fmt.Sprint("prove ", i)))
	var steps []api.Step
	for _, w := range l[1:] {
		s := api.Step{Left: w[0] == 'L'}
		fmt.Sscan(w[1:], &s.Hash)
		if w != fmt.Sprint(map[bool]string{true: "L", false: "R"}[s.Left], s.Hash) {
			t.Fatalf("%q", l)
		}
		steps = append(steps, s)
	}
	in, e := proof.Included([]byte(fmt.Sprint("move 0 1 ", i+1)), i, n, root, steps)
	if !in || e != api.OK || l[0] != fmt.Sprint(root) {
		t.Fatalf("entry %d of %d: %q", i, n, l)
	}
}

// P10.9: could is custody's Could.
func TestCould(t *testing.T) {
	h := built(t, "grant 0 6 3 5 -1;grant 1 2 1 5 -1;grant 0 4 1 5 1;grant 15 32768 1 5 -1;grant 2 32772 1 5 -1")
	want(t, h, "could 0", "0", "could 1", "0", "could 2", "0", "could 3", "6", "could 32772", "32768", "could 65535", "32774", "could 32771", "6", "could 5", "4")
	wantAll(t, h, "! 2", "could -1", "could 65536", "could "+maxNumber)
	want(t, h, "revoke 1 0", "1", "could 3", "0", "could 65535", "32772", "day 6", "ok", "could 65535", "0")
}

// P10.9: audit tells what Audit does.
func TestAuditReply(t *testing.T) {
	h := stocked(t)
	do(t, h, repeat("stone 5 1.1.1", 3)+";parcel i 9 10;move 0 1 7")
	a := h.Audit()
	if a.Commands != 30 || a.Stones != 11 || a.Loose != 1 || a.Parcels != 9 || a.Sold != 1 || a.Money != 0 || !a.Good || a.Root != h.Log().Root() {
		t.Errorf("audit %v", a)
	}
	want(t, h, "audit", fmt.Sprint("good 30 11 1 9 1 0 ", h.Log().Root()))
}

// P10.10: what if.
func TestIf(t *testing.T) {
	h := built(t, "stone 5 1.1.1;stone 6 1.1.1;parcel a 1;grant 0 1 1 9 -1;grant 1 1 1 9 -1")
	before := shown(h)
	want(t, h, "if stone 7 1.1.1", "stone 3", "if stone 7 1.1.1", "stone 3", "if parcel b 2", "ok", "if parcel a 2", "! 7", "if stones b", "! 6", "if grant 2 1 1 9 -1", "grant 3",
		"if open 0 1 0 2 1", "ok", "if store a 0", "! 13", "if day 8", "ok", "if move 0 1 5", "0 0", "if balance 1", "0", "if tender a", "ok", "if shut", "! 6", "if revoke 1 0", "1",
		"if audit", h.Exec("audit"), "if prove 2", h.Exec("prove 2"), "if parcels", "a", "if stones a", "hand 1", "  if   stones  a ", "hand 1")
	want(t, h, "if", "? line", "if ", "? line", "if if", "? line", "if if if", "? line", "if fly", "? line", "if stone 5", "? line", "if stone x 1.1.1", "? word 1", "if stone 5 1.1", "? word 2",
		"if if stone 5 x", "? word 2", "if if stone 7 1.1.1", "stone 3", "if if if if parcel b 2", "ok", "if if fly", "? line", strings.Repeat("if ", 60)+"stones a", "hand 1")
	if after := shown(h); after != before {
		t.Errorf("before:\n%sthen:\n%s", before, after)
	}
	want(t, h, "stone 7 1.1.1", "stone 3", "parcel b 2", "ok", "open 0 1 0 2 1", "ok", "store a 0", "ok", "tender b", "ok", "if close", "! 9", "if shut", "ok", "shut", "ok", "if close", "0", "if close", "0",
		"close", "0", "if close", "! 6", "if fetch a", "ok", "if fetch a", "ok", "if lock 0", "ok", "fetch a", "ok", "if join a b", "1", "if join b a", "1", "parcels", "a b")
}
