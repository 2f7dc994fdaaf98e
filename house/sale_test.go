package house_test

import (
	"fmt"
	"strings"
	"testing"

	"kimberlite/api"
	"kimberlite/house"
)

// P10.7: tenders.

// stocked is a house with the parcels a to f of a stone each, numbered alike, g in the
// vault 2, and h, which is sold to the buyer 7 for nothing.
func stocked(t *testing.T) *house.House {
	t.Helper()
	h := built(t, repeat("stone 5 1.1.1", 8)+";grant 0 4 1 9 -1;grant 1 4 1 9 -1;open 2 1 0 2 1")
	for i, name := range "abcdefgh" {
		do(t, h, fmt.Sprintf("parcel %c %d", name, i+1))
	}
	do(t, h, "store g 2;tender h;"+offer(7, 99, 1, 30)+";shut;"+showing(7, 99, 1, 30)+";close")
	return h
}

// offer is the line by which a buyer seals offers, showing the one that shows them.
func offer(buyer int, salt uint64, pairs ...int) string {
	return fmt.Sprint("seal ", buyer, " ", sealed(buyer, salt, pairs...))
}

func showing(buyer int, salt uint64, pairs ...int) string {
	return fmt.Sprint("show ", buyer, " ", salt, " ", words(pairs...))
}

// P10.7: which parcels a tender can be of.
func TestTender(t *testing.T) {
	h := stocked(t)
	want(t, h, "stones h", "sold 8", "stones g", "vault2 7")
	wantRefused(t, h, api.ErrNone, "tender x", "tender a x", "tender a b x h", "tender a x a", "tender x h")
	wantRefused(t, h, api.ErrState, "tender h", "tender a h", "tender a b h x", "tender a h a", "tender h h")
	wantRefused(t, h, api.ErrExists, "tender a a", "tender a b a", "tender g g", "tender a b b x", "tender a b b h", "tender a b c d e a")
	want(t, h, "tender a b c d e f g", "? line", "tender b g a", "ok", "stones b", "hand 2", "stones g", "vault2 7", "stones a", "hand 1")
	for _, state := range []string{"shut", "close"} {
		wantRefused(t, h, api.ErrState, "tender c", "tender x", "tender h", "tender c c", "tender b")
		do(t, h, state)
	}
	want(t, h, "tender b", "ok", "shut", "ok", "close", "0", "tender f e d c b a", "ok")
}

// P10.7: seal, shut, show and close are for a tender that there is, in its states.
func TestTenderStates(t *testing.T) {
	h := stocked(t)
	none := []string{"seal 1 1", "seal 0 1", "seal 8 1", "shut", "show 1 1 1 1", "show 0 1 1 1", "close"}
	wantRefused(t, h, api.ErrNone, none...)
	do(t, h, "tender a b")
	wantRefused(t, h, api.ErrArg, "seal 0 1", "seal 8 1", "seal -1 1", "seal "+maxNumber+" 1", "show 0 1 1 1", "show 8 1 1 1", "show -1 1 1 1")
	wantRefused(t, h, api.ErrState, "show 1 1 1 1", "close")
	want(t, h, "seal 1 0", "ok", "seal 7 18446744073709551615", "ok", "seal 1 5", "ok", offer(1, 5, 1, 10), "ok", "if shut", "ok", "shut", "ok")
	wantRefused(t, h, api.ErrState, "seal 1 1", "seal 2 1", "shut")
	wantRefused(t, h, api.ErrArg, "seal 0 1", "seal 8 1", "show 0 1 1 1", "show 8 1 1 1")
	wantRefused(t, h, api.ErrNone, "show 2 5 1 10", "show 6 5 0 0")
	wantRefused(t, h, api.ErrProof, "show 1 4 1 10", "show 1 5 1 11", "show 1 5 2 10", "show 7 5 1 10", "show 1 5 1 10 1 10")
	want(t, h, "show 1 5 1 10", "ok")
	wantRefused(t, h, api.ErrExists, "show 1 5 1 10", "show 1 4 1 10")
	want(t, h, "close", "10 1:0", "stones a", "sold 1", "stones b", "hand 2", "balance 1", "0")
	wantRefused(t, h, api.ErrNone, none...)
}

// P10.7: which offers can be shown.
func TestShow(t *testing.T) {
	h := stocked(t)
	four := func(n int) []int { return []int{1, n, 2, n, 4, n, 7, n} }
	do(t, h, "tender a b c;"+offer(1, 5, 0, 10)+";"+offer(2, 5, 8, 10)+";"+offer(3, 5, 1, 0)+";"+offer(4, 18446744073709551615, 1, 1<<30+1)+";"+offer(5, 0, 1, 10, 7, 1<<30, 1, 0)+";shut")
	wantRefused(t, h, api.ErrArg, showing(1, 5, 0, 10), showing(2, 5, 8, 10), showing(3, 5, 1, 0), showing(4, 18446744073709551615, 1, 1<<30+1), showing(5, 0, 1, 10, 7, 1<<30, 1, 0))
	do(t, h, "close;tender a b c")
	for buyer := range 6 {
		do(t, h, offer(buyer+1, uint64(buyer), four(buyer+1)...))
	}
	do(t, h, "shut")
	want(t, h, "show 1 0 1 1 2 1 4 1 7 1 1 1", "? line", "show 1 0 1 1 2", "? line")
	for buyer := range 4 {
		want(t, h, showing(buyer+1, uint64(buyer), four(buyer+1)...), "ok")
	}
	wantRefused(t, h, api.ErrFull, showing(5, 4, four(5)...), showing(6, 5, four(6)...))
	wantRefused(t, h, api.ErrProof, showing(5, 4, four(6)...))
	want(t, h, "close", "9 2:1 3:1 4:1")
}

// P10.7: the example of chapter 5, with buyers from 1 on: what is taken, in the order of
// the award, and what is paid for it.
func TestClose(t *testing.T) {
	h := stocked(t)
	do(t, h, "tender g b;"+offer(3, 7, 3, 8)+";"+offer(2, 1, 1, 7, 2, 5)+";"+offer(1, 0, 1, 10)+";"+offer(6, 1, 3, 1000)+";shut")
	do(t, h, showing(3, 7, 3, 8)+";"+showing(2, 1, 1, 7, 2, 5)+";"+showing(1, 0, 1, 10))
	want(t, h, "if close", "15 1:3 2:0", "stones g", "vault2 7", "close", "15 1:3 2:0", "stones g", "sold 7", "stones b", "sold 2", "balance 1", "-3", "balance 2", "0", "balance 3", "0", "balance 0", "3")
	want(t, h, "fetch g", "! 9", "tender b", "! 9", "tender a", "ok", "stones a", "hand 1")
}

// P10.7: of several offers that are taken, who pays what; and what is not taken stays
// where it is.
func TestCloseMore(t *testing.T) {
	h := stocked(t)
	do(t, h, "tender f a c b g;"+offer(1, 0, 6, 20)+";"+offer(2, 0, 2, 9, 4, 9)+";"+offer(5, 0, 1, 100)+";"+offer(7, 0, 1, 60, 4, 5)+";shut")
	do(t, h, showing(7, 0, 1, 60, 4, 5)+";"+showing(5, 0, 1, 100)+";"+showing(2, 0, 2, 9, 4, 9)+";"+showing(1, 0, 6, 20))
	// Without the buyer 1 the lots 2 and 4 are worth 9 and 5, without 5 the lot 1 is worth 60.
	want(t, h, "close", "120 1:14 5:60", "stones f", "sold 6", "stones a", "sold 1", "stones c", "sold 3", "stones b", "hand 2", "stones g", "vault2 7",
		"balance 0", "74", "balance 1", "-14", "balance 2", "0", "balance 5", "-60", "balance 7", "0", "parcels", "a b c d e f g h")
	a := h.Audit()
	if !a.Good || a.Stones != 8 || a.Sold != 4 || a.Parcels != 8 || a.Loose != 0 || a.Money != 0 {
		t.Errorf("audit %v", a)
	}
}

// P10.7: as many offers as can be taken, and none at all.
func TestCloseMost(t *testing.T) {
	h := stocked(t)
	do(t, h, "tender a b c d e f")
	for i := range 6 {
		do(t, h, offer(i+1, uint64(i), 1<<i, 100+i))
	}
	do(t, h, offer(7, 9, 63, 1<<30)+";"+offer(7, 9, 63, 70)+";shut")
	for i := range 6 {
		do(t, h, showing(6-i, uint64(5-i), 1<<(5-i), 105-i))
	}
	do(t, h, showing(7, 9, 63, 70))
	want(t, h, "close", "615 1:0 2:0 3:0 4:0 5:0 6:0", "balance 0", "0")
	for i, name := range "abcdef" {
		want(t, h, "stones "+string(name), fmt.Sprint("sold ", i+1))
	}
	// Nobody shows anything, and nothing is sold.
	want(t, h, "tender g", "ok", offer(1, 0, 1, 5), "ok", "shut", "ok", "close", "0", "stones g", "vault2 7", "close", "! 6")
}

// P10.7: the parcels of a tender are neither parted, joined, stored nor fetched until it
// is closed; other ones are, and all can be looked at.
func TestLots(t *testing.T) {
	h := stocked(t)
	do(t, h, "tender a g c")
	for _, state := range []string{"shut", "close"} {
		for _, name := range []string{"a", "c", "g"} {
			wantRefused(t, h, api.ErrState, "sieve "+name+" n 0..9", "class "+name+" n 0.0.0", "join "+name+" b", "join b "+name, "store "+name+" 2", "fetch "+name)
			want(t, h, "width "+name, "1 "+fmt.Sprint(int(name[0]-'a')+1), "pairs "+name+" 1 1.1.1", "0")
		}
		want(t, h, "if sieve b n 0..9", "1", "if join b d", "1", "if store b 2", "ok")
		do(t, h, state)
	}
	want(t, h, "if sieve a n 0..9", "1", "if class c n 0.0.0", "1", "if join a c", "1", "if store c 2", "ok", "fetch g", "ok", "join g a", "1")
}

// P10.7: ErrRange of a payment; then nothing is closed.
func TestCloseRange(t *testing.T) {
	// The buyer 2 has the least value that there is.
	h := built(t, repeat("move"+strings.Repeat(" 2 3 1073741824", 4), maxValue/maxCents/4)+";stone 5 1.1.1;stone 5 1.1.1;parcel a 1;parcel b 2")
	want(t, h, "balance 2", fmt.Sprint(-maxValue), "balance 3", fmt.Sprint(maxValue))
	do(t, h, "tender a b;"+offer(1, 0, 1, 9)+";"+offer(2, 0, 1, 10)+";"+offer(3, 0, 2, 5)+";shut;"+showing(1, 0, 1, 9)+";"+showing(2, 0, 1, 10)+";"+showing(3, 0, 2, 5))
	wantRefused(t, h, api.ErrRange, "close", "if close")
	want(t, h, "stones a", "hand 1", "join a b", "! 9", "tender a", "! 9", "shut", "! 9", "show 1 0 1 9", "! 7")
	want(t, h, "move 0 2 8", "0 0", "close", "! 4", "balance 2", fmt.Sprint(8-maxValue), "move 0 2 1", "0 0", "close", "15 2:9 3:0", "balance 2", fmt.Sprint(-maxValue), "balance 0", "0", "stones a", "sold 1")
	// The house's own account has the greatest value that there is.
	h = built(t, repeat("move"+strings.Repeat(" 3 0 1073741824", 4), maxValue/maxCents/4)+";stone 5 1.1.1;stone 5 1.1.1;parcel a 1;parcel b 2")
	do(t, h, "tender a b;"+offer(1, 0, 1, 9)+";"+offer(2, 0, 1, 10)+";"+offer(4, 0, 2, 5)+";shut;"+showing(2, 0, 1, 10)+";"+showing(4, 0, 2, 5))
	want(t, h, "if close", "15 2:0 4:0", showing(1, 0, 1, 9), "ok", "close", "! 4", "move 0 5 8", "0 0", "close", "! 4", "move 0 5 1", "0 0", "close", "15 2:9 4:0", "balance 0", fmt.Sprint(maxValue))
}
