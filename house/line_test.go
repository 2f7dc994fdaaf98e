package house_test

import (
	"slices"
	"strings"
	"testing"

	"kimberlite/api"
	"kimberlite/house"
)

// P10.1 to P10.3: what a line is, and what a command asks for.

// The example of the chapter.
func TestExample(t *testing.T) {
	want(t, house.New(),
		"stone 30 3.4.5", "stone 1",
		"stone 70 4.4.5", "stone 2",
		"stone 31 3.4.6", "stone 3",
		"parcel run 1 2 3", "ok",
		"sieve run big 50..100", "1",
		"pairs run 2 1.1.1", "1 1:3",
		"width run", "1 3",
		"grant 0 1 1 9 -1", "grant 1",
		"grant 1 1 1 9 -1", "grant 2",
		"store run 0", "! 13",
		"open 0 1 0 2 1", "ok",
		"store run 0", "ok",
		"stones run", "vault0 1 3",
		"tender big", "ok",
		"move 0 1 500 1 0 200", "0 1 1",
		"balance 1", "300",
		"if fetch run", "ok")
}

// P10.1.
func TestNew(t *testing.T) {
	h := house.New()
	want(t, h, "parcels", "", "stones a", "! 6", "could 65535", "0", "prove 0", "! 6", "audit", "good 0 0 0 0 0 0 0", "balance 8", "! 2")
	wantAll(t, h, "0", "balance 0", "balance 1", "balance 2", "balance 3", "balance 4", "balance 5", "balance 6", "balance 7")
	wantAll(t, h, "! 9", "lock 0", "lock 7", "lock 15")
	wantAll(t, h, "! 6", "shut", "close", "seal 1 1", "revoke 1 0")
	if len(h.Book()) != 0 || h.Log().Len() != 0 || h.Audit() != (api.Audit{Good: true}) {
		t.Errorf("book %q, audit %v", h.Book(), h.Audit())
	}
	// The day is 0: only a grant until that day or later stands.
	do(t, h, "grant 0 1 1 0 -1;grant 1 1 1 0 -1")
	want(t, h, "could 3", "1", "day 0", "ok", "day -1", "! 2", "could 3", "1", "day 1", "ok", "could 3", "0", "day 0", "! 9")
}

// P10.2: words, and the blanks around them.
func TestBlanks(t *testing.T) {
	h := house.New()
	wantAll(t, h, "", "", " ", "   ", strings.Repeat(" ", maxLine))
	want(t, h, "stone 1 0.0.0", "stone 1", " stone 1 0.0.0", "stone 2", "stone 1 0.0.0  ", "stone 3", "   stone    1  0.0.0 ", "stone 4",
		"  parcel a   1 2", "ok", " stones  a ", "hand 1 2", "  shut  ", "! 6", "  fly", "? line", " stone  x   y ", "? word 1")
	if got := h.Book(); !slices.Equal(got, append(slices.Repeat([]string{"stone 1 0.0.0"}, 4), "parcel a 1 2")) {
		t.Errorf("book %q", got)
	}
}

// P10.2: how long a line may be, blanks counted.
func TestLong(t *testing.T) {
	h := house.New()
	long := func(n int) string { return "day" + strings.Repeat(" ", n-4) + "5" }
	want(t, h, long(maxLine), "ok", long(maxLine+1), "? line", long(1000), "? line")
	want(t, h, "day 5"+strings.Repeat(" ", maxLine-5), "ok", "day 5"+strings.Repeat(" ", maxLine-4), "? line", strings.Repeat(" ", maxLine-4)+"day 5", "? line")
	want(t, h, "day "+strings.Repeat("5", maxLine-4), "? word 1", "day "+strings.Repeat("5", maxLine-3), "? line", strings.Repeat("a", maxLine+1), "? line")
	want(t, h, "if"+strings.Repeat(" ", maxLine-7)+"day 5", "ok", "if"+strings.Repeat(" ", maxLine-6)+"day 5", "? line")
	if got := h.Book(); !slices.Equal(got, []string{"day 5", "day 5"}) {
		t.Errorf("book %q", got)
	}
}

// P10.2: which bytes a line may have, wherever they stand.
func TestBytes(t *testing.T) {
	h := house.New()
	for b := range 256 {
		s := string([]byte{byte(b)})
		if s == " " || s == "-" {
			continue
		}
		if b >= 32 && b <= 126 {
			wantAll(t, h, "? word 1", "could 1"+s+"x", "could "+s+"x", "if could 1"+s+"x")
			continue
		}
		wantAll(t, h, "? line", "could"+s+"3", "could 3"+s, s+"could 3", "could 3 "+s, "could "+s+" 3", "could "+s, s, " "+s+" ", "if could 3"+s)
	}
	wantAll(t, h, "? line", "could 3\n", "could 3\r", "could\t3", "could 3 é", "could ３", "\tcould 3", "\n", "\x00")
}

// P10.2: what names no command.
func TestUnknown(t *testing.T) {
	wantAll(t, house.New(), "? line", "fly", "fly 1", "Stone 1 0.0.0", "STONE 1 0.0.0", "stone1 0.0.0", "ston 1 0.0.0", "stones", "?", "!", "ok", "0",
		"-", "if", "IF audit", "if fly", "if if", "if if fly 1", "if Audit", "audits", "new", "read", "run", "book", "log", "copy", "exec", "next")
}

// sample is a parameter of each kind.
var sample = map[rune]string{'n': "1", 'a': "a", 's': "1..2", 'g': "1.1.1", 'h': "1"}

// line is a command with parameters of these kinds.
func line(name, kinds string) []string {
	l := []string{name}
	for _, k := range kinds {
		l = append(l, sample[k])
	}
	return l
}

// P10.3: how many parameters a command may have.
func TestParameters(t *testing.T) {
	h := house.New()
	for name, r := range table() {
		for n := range 25 {
			kinds, ok := r.kinds(n)
			if !ok {
				kinds = (r.once + strings.Repeat(r.again, 25) + strings.Repeat("n", 25))[:n]
			}
			got := h.Copy().Exec(strings.Join(line(name, kinds), " "))
			if (got != "? line") != ok || strings.HasPrefix(got, "? word") {
				t.Errorf("%s with %d parameters: %q", name, n, got)
			}
		}
	}
	// The number of parameters comes before their kinds, and the bytes before all.
	wantAll(t, h, "? line", "stone x", "stone x y z", "parcel 1", "class a b", "tender", "move x y", "move 1 2 3 x", "show x y z", "audit x", "stone x\t1.1.1", "day x\x7f")
}

// words of each kind, and words that are of none of that kind.
func goodAndBad() (good, bad map[rune][]string) {
	good, bad = map[rune][]string{}, map[rune][]string{}
	good['n'] = []string{"0", "-1", "12", "1000000000000000", maxNumber, "-" + maxNumber}
	bad['n'] = []string{"-0", "00", "01", "-01", "+1", "1.0", "1e3", "1_0", "0x1", "--1", "-", "x", "1x", "1125899906842625", "-1125899906842625",
		"9223372036854775807", "-9223372036854775808", "9223372036854775808", "18446744073709551617", "100000000000000000000000000"}
	good['a'] = []string{"a", "z", "abcdefgh", "a1234567", "z9", "a0a", "if"}
	bad['a'] = []string{"1a", "A", "aB", "abcdefghi", "a-b", "a_b", "a.b", "a,b", "-", "1", "12345678", "{", "`", "a:", "a/", "a@", "a["}
	good['s'] = []string{"-", "1..2", "-5..-3", "1..2,3..4", "-3..-2,0..1,7..9", "-1099511627776..1099511627776"}
	bad['s'] = []string{"1", "2..1", "1..1", "1..2,2..3", "1..3,2..4", "3..4,1..2", "1...2", "1.2", "1..2,", ",1..2", "1..2,,3..4", "01..2", "1..02", "1..+2",
		"-0..1", "-1099511627777..0", "0..1099511627777", "1..2;3..4", "--", "1-2", "1..2,-", "-,1..2", "..2", "1..", "..", ",", "a..b", "1..2..3", "1..99999999999999999999"}
	good['g'] = []string{"0.0.0", "11.11.11", "3.0.11", "-1.12.0", maxNumber + ".0.-5"}
	bad['g'] = []string{"0", "0.0", "0.0.0.0", "0..0", "0.0.", ".0.0", "...", "a.0.0", "00.0.0", "0.0.01", "0,0,0", "-0.0.0", "+1.0.0", "0.0.1125899906842625", "0.0.x"}
	good['h'] = []string{"0", "1", "10", "9223372036854775808", "18446744073709551615"}
	bad['h'] = []string{"-1", "-0", "00", "01", "+1", "1.0", "x", "-", "0x1", "1e3", "18446744073709551616", "20000000000000000000", "100000000000000000000000000"}
	return good, bad
}

// P10.2: of which kind a parameter must be, for each place of each command.
func TestKinds(t *testing.T) {
	good, bad := goodAndBad()
	h := house.New()
	for name, r := range table() {
		kinds := r.once + strings.Repeat(r.again, min(r.most, 2))
		for i, kind := range []rune(kinds) {
			l := line(name, kinds)
			for _, w := range good[kind] {
				l[i+1] = w
				if got := h.Copy().Exec(strings.Join(l, " ")); strings.HasPrefix(got, "?") {
					t.Errorf("%q: %q", l, got)
				}
			}
			for _, w := range bad[kind] {
				l[i+1] = w
				want(t, h, strings.Join(l, " "), "? word "+words(i+1), "if "+strings.Join(l, " "), "? word "+words(i+1))
			}
			// It is the first one that counts.
			for j := range i {
				if k := []rune(kinds)[j]; k != 's' {
					l[j+1] = "~"
					want(t, h, strings.Join(l, " "), "? word "+words(j+1))
					l[j+1] = sample[k]
				}
			}
		}
	}
	if len(h.Book()) > 0 {
		t.Errorf("book %q", h.Book())
	}
}

// P10.3: which commands change the house, and so are in its book, and which only look.
func TestTable(t *testing.T) {
	h := built(t, "stone 5 1.1.1;stone 15 2.2.2;stone 25 3.3.3;stone 35 3.3.3;parcel a 1 2 3;grant 0 1 3 9 -1;grant 1 1 1 9 -1")
	changes := []string{"sieve a b 10..20", "class a c 3.3.3", "join b a", "pass 1 0 2 1 1 5 -1", "open 0 3 2 2 1", "revoke 1 0", "store a 0", "fetch a", "lock 0",
		"tender a c", "seal 1 " + sealed(1, 5, 1, 10), "shut", "show 1 5 1 10", "close", "move 1 0 5", "stone 1 1.1.1", "parcel d 4", "grant 3 1 1 9 -1", "day 1"}
	before := len(h.Book())
	for i, line := range changes {
		do(t, h, line)
		if book := h.Book(); len(book) != before+i+1 || book[len(book)-1] != line {
			t.Fatalf("%q: book %q", line, book)
		}
	}
	before = len(h.Book())
	do(t, h, "parcels;stones a;pairs a 5 1.1.1;width a;could 3;balance 1;prove 1;audit;if day 5;if audit")
	if got := len(h.Book()); got != before {
		t.Errorf("%d commands; want %d", got, before)
	}
}
