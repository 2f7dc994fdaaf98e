package house_test

import (
	"fmt"
	"slices"
	"strings"
	"testing"

	"kimberlite/api"
	"kimberlite/house"
)

// P10.4 and P10.5: stones and parcels.

// P10.4: what a stone may be.
func TestStone(t *testing.T) {
	h := house.New()
	want(t, h, "stone 1 0.0.0", "stone 1", "stone 1073741824 11.11.11", "stone 2", "stone 7 11.0.3", "stone 3", "stone 7 11.0.3", "stone 4")
	wantRefused(t, h, api.ErrArg, "stone 0 1.1.1", "stone -1 1.1.1", "stone 1073741825 1.1.1", "stone "+maxNumber+" 1.1.1", "stone -"+maxNumber+" 1.1.1",
		"stone 5 12.0.0", "stone 5 0.12.0", "stone 5 0.0.12", "stone 5 -1.0.0", "stone 5 0.-1.0", "stone 5 0.0.-1", "stone 5 "+maxNumber+".0.0", "stone 0 12.0.0")
	want(t, h, "stone 7 0.0.0", "stone 5")
	want(t, h, "audit", fmt.Sprint("good 5 5 5 0 0 0 ", h.Log().Root()))
}

// P10.4: as many stones as there may be.
func TestStonesFull(t *testing.T) {
	h := house.New()
	for n := range maxTaken {
		want(t, h, "stone 5 1.1.1", fmt.Sprint("stone ", n+1))
	}
	wantRefused(t, h, api.ErrFull, "stone 5 1.1.1", "stone 1 0.0.0")
	wantRefused(t, h, api.ErrArg, "stone 0 1.1.1", "stone 5 12.1.1")
	// Stones in parcels count, too.
	do(t, h, "parcel a 1 2 64;sieve a b 5..6")
	want(t, h, "stones b", "hand 1 2 64")
	wantRefused(t, h, api.ErrFull, "stone 5 1.1.1")
}

// six is a house with six stones, of the sizes 10, 20 and so on; 2, 4 and 5 are the
// parcel a.
func six(t *testing.T) *house.House {
	t.Helper()
	return built(t, "stone 10 1.0.0;stone 20 0.1.0;stone 30 1.1.0;stone 40 2.1.1;stone 50 0.2.2;stone 60 3.3.3;parcel a 5 2 4")
}

// P10.4: a parcel, and which stones it may have.
func TestParcel(t *testing.T) {
	h := six(t)
	want(t, h, "stones a", "hand 2 4 5", "stones b", "! 6", "parcels", "a")
	wantRefused(t, h, api.ErrExists, "parcel a 1", "parcel a 7", "parcel a 2", "parcel a 1 1")
	wantRefused(t, h, api.ErrNone, "parcel b 7", "parcel b 0", "parcel b -1", "parcel b "+maxNumber, "parcel b 1 7", "parcel b 1 3 7 2", "parcel b 7 2", "parcel b 0 1 1")
	wantRefused(t, h, api.ErrState, "parcel b 2", "parcel b 1 5", "parcel b 1 1", "parcel b 1 3 1", "parcel b 2 7", "parcel b 1 1 7", "parcel b 3 3 0")
	want(t, h, "parcel b 6 1", "ok", "stones b", "hand 1 6", "parcel a0 3", "ok", "stones a0", "hand 3", "parcels", "a a0 b", "stones a", "hand 2 4 5")
	wantRefused(t, h, api.ErrState, "parcel c 1", "parcel c 3", "parcel c 6")
	want(t, h, "stone 5 1.1.1", "stone 7", "parcel c 7", "ok")
	// A name is free again when its parcel is gone.
	want(t, h, "join b a", "2", "stone 5 1.1.1", "stone 8", "parcel b 8", "ok", "stones a", "hand 1 2 4 5 6")
	want(t, h, "parcel "+strings.Repeat("z", 8)+" 1", "! 9", "stone 1 1.1.1", "stone 9", "parcel zzzzzzzz 9", "ok", "parcels", "a a0 b c zzzzzzzz")
}

// P10.4: a parcel of as many stones as can be named.
func TestTwelve(t *testing.T) {
	h := built(t, repeat("stone 5 1.1.1", 14))
	want(t, h, "parcel a 12 11 10 9 8 7 6 5 4 3 2 1 13", "? line", "parcel a 12 11 10 9 8 7 6 5 4 3 2 1", "ok", "stones a", "hand 1 2 3 4 5 6 7 8 9 10 11 12")
	want(t, h, "parcel b 14 13", "ok", "join b a", "2", "stones a", "hand 1 2 3 4 5 6 7 8 9 10 11 12 13 14")
}

// crowded is a house with as many parcels as there may be: a with two stones, b with one,
// and others of one stone. Four stones are loose.
func crowded(t *testing.T) *house.House {
	t.Helper()
	h := built(t, repeat("stone 5 1.1.1", 36)+";stone 9 2.2.2;parcel a 36 37;parcel b 35")
	for n := range maxParcels - 2 {
		do(t, h, fmt.Sprintf("parcel p%d %d", n, n+1))
	}
	return h
}

// P10.4, P10.5: as many parcels as there may be.
func TestParcelsFull(t *testing.T) {
	h := crowded(t)
	if n := len(strings.Fields(h.Exec("parcels"))); n != maxParcels {
		t.Fatalf("%d parcels", n)
	}
	wantRefused(t, h, api.ErrFull, "parcel new 31", "sieve a new 9..10", "class a new 2.2.2", "sieve a new 0..10", "class a new 0.0.0", "sieve b new 5..6")
	wantRefused(t, h, api.ErrExists, "parcel b 31", "sieve a b 9..10", "class a a 0.0.0")
	wantRefused(t, h, api.ErrPlan, "sieve a new 1..2", "class a new 3.0.0")
	wantRefused(t, h, api.ErrNone, "parcel new 38", "sieve new newer 5..6", "class new newer 1.1.1")
	wantRefused(t, h, api.ErrState, "parcel new 1")
	wantRefused(t, h, api.ErrArg, "class a new 1.1.12")
	// Sold ones count, too; those that are gone do not.
	do(t, h, "tender p0;seal 1 "+sealed(1, 5, 1, 10)+";shut;show 1 5 1 10;close")
	want(t, h, "stones p0", "sold 1")
	wantRefused(t, h, api.ErrFull, "parcel new 31", "sieve a new 9..10", "class a new 2.2.2")
	want(t, h, "join b a", "1", "sieve a new 9..10", "1", "stones a", "hand 35 36", "stones new", "hand 37")
	wantRefused(t, h, api.ErrFull, "parcel newer 31", "sieve a newer 5..6")
}

// P10.5: sieve.
func TestSieve(t *testing.T) {
	h := six(t)
	want(t, h, "sieve a b 20..21", "1", "stones b", "hand 2", "stones a", "hand 4 5")
	want(t, h, "sieve a c 0..40,41..50,51..60", "! 10", "sieve a c -", "! 10", "sieve a c 0..40,50..51", "1", "stones c", "hand 5", "stones a", "hand 4")
	// All of it, and the parcel is gone.
	want(t, h, "sieve a d -1099511627776..1099511627776", "1", "stones a", "! 6", "stones d", "hand 4", "parcels", "b c d", "sieve d a 40..41", "1", "parcels", "a b c")
	want(t, h, "parcel e 6 3 1", "ok", "sieve e f 10..11,60..61", "2", "stones f", "hand 1 6", "stones e", "hand 3")
	wantRefused(t, h, api.ErrNone, "sieve x b 0..99", "sieve x y -", "sieve x x 0..99")
	wantRefused(t, h, api.ErrExists, "sieve f b 0..99", "sieve f f 0..99", "sieve f b -", "sieve f f 1..2")
	wantRefused(t, h, api.ErrPlan, "sieve f n 0..10", "sieve f n 11..60", "sieve f n 61..99", "sieve f n -")
	if book := h.Book(); !slices.Contains(book, "sieve a c 0..40,50..51") {
		t.Errorf("book %q", book)
	}
}

// P10.5: class.
func TestClass(t *testing.T) {
	h := six(t)
	do(t, h, "parcel b 1 3 6")
	// Those from one of the grades on, whatever their order, and however often it stands.
	want(t, h, "if class a x 0.0.0", "3", "if class a x 0.1.0", "3", "if class a x 0.1.1", "2", "if class a x 0.2.0 2.0.0", "2", "if class a x 3.0.0 0.0.2", "1",
		"if class a x 2.2.2", "! 10", "if class a x 2.1.1 2.1.1", "1", "if class a x 2.1.1 0.0.0 0.2.2", "3", "if class a x 11.0.0 0.11.0 0.0.11 3.0.0 0.3.0 0.0.2", "1")
	want(t, h, "class a x 0.2.0", "1", "stones x", "hand 5", "stones a", "hand 2 4", "class a y 2.0.0 0.0.2", "1", "stones y", "hand 4", "stones a", "hand 2")
	want(t, h, "class a z 0.1.0 0.0.0", "1", "stones a", "! 6", "stones z", "hand 2", "parcels", "b x y z", "stones b", "hand 1 3 6")
	wantRefused(t, h, api.ErrNone, "class a n 0.0.0", "class a n 12.0.0", "class a b 0.0.0")
	wantRefused(t, h, api.ErrArg, "class b n 12.0.0", "class b n 0.0.0 0.12.0", "class b n 0.0.-1 0.0.0", "class b x 0.0.0 0.0.12", "class b b -1.0.0", "class b n 11.11.11 "+maxNumber+".0.0")
	wantRefused(t, h, api.ErrExists, "class b x 0.0.0", "class b b 0.0.0", "class b x 11.11.11")
	wantRefused(t, h, api.ErrPlan, "class b n 11.11.11", "class b n 4.0.0 0.4.0 0.0.4", "class x n 1.0.0")
}

// P10.5: join.
func TestJoin(t *testing.T) {
	h := six(t)
	do(t, h, "parcel b 6 1;parcel c 3")
	wantRefused(t, h, api.ErrNone, "join x a", "join a x", "join x x", "join x y")
	wantRefused(t, h, api.ErrArg, "join a a", "join b b")
	want(t, h, "join b a", "2", "stones a", "hand 1 2 4 5 6", "stones b", "! 6", "parcels", "a c", "join a c", "5", "stones c", "hand 1 2 3 4 5 6", "parcels", "c")
	wantRefused(t, h, api.ErrNone, "join a c", "join c a")
	wantRefused(t, h, api.ErrArg, "join c c")
}

// P10.5: a parcel that is not at hand is neither parted nor joined.
func TestNotAtHand(t *testing.T) {
	h := six(t)
	do(t, h, "parcel b 6;parcel c 3;parcel d 1;grant 0 65535 1 9 -1;grant 1 65535 1 9 -1;open 3 1 0 2 1;store a 3")
	do(t, h, "tender c;seal 1 "+sealed(1, 5, 1, 10)+";shut;show 1 5 1 10;close;tender d")
	want(t, h, "stones a", "vault3 2 4 5", "stones c", "sold 3", "stones d", "hand 1")
	for _, name := range []string{"a", "c", "d"} {
		wantRefused(t, h, api.ErrState, "sieve "+name+" n 0..99", "sieve "+name+" b 0..99", "sieve "+name+" n -", "class "+name+" n 0.0.0", "class "+name+" n 12.0.0",
			"class "+name+" b 0.0.0", "join "+name+" b", "join "+name+" x", "join "+name+" "+name, "join b "+name)
	}
	wantRefused(t, h, api.ErrNone, "join x a", "join x c", "join x d")
	wantRefused(t, h, api.ErrArg, "join b b")
	wantRefused(t, h, api.ErrExists, "sieve b a 0..99", "class b c 0.0.0", "sieve b d 0..99", "parcel a 1", "parcel c 1", "parcel d 1")
	wantRefused(t, h, api.ErrState, "parcel n 2", "parcel n 3", "parcel n 1")
	do(t, h, "fetch a;shut;close")
	want(t, h, "join a b", "3", "join d b", "1", "sieve b a 0..50", "3", "stones a", "hand 1 2 4", "stones b", "hand 5 6")
}
