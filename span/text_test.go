package span_test

import (
	"strings"
	"testing"

	"kimberlite/api"
	"kimberlite/span"
)

// P1.7: Text, and Parse of it.
func TestTexts(t *testing.T) {
	for want, a := range map[string][]api.Span{
		"-":                                  nil,
		"3..7":                               sp(3, 7),
		"-7..-3":                             sp(-7, -3),
		"-1..0 1..2":                         sp(-1, 0, 1, 2),
		"0..1":                               sp(0, 1),
		"1..3 5..7 10..20":                   sp(1, 3, 5, 7, 10, 20),
		"-1099511627776..1099511627776":      sp(-bound, bound),
		"-1099511627776..1 9..1099511627776": sp(-bound, 1, 9, bound),
	} {
		if s, e := span.Text(a); s != want || e != api.OK {
			t.Errorf("Text(%v) = %q, error %d; want %q", a, s, e, want)
		}
		wantSet(t, a)(span.Parse(want))
	}
	if s, e := span.Text([]api.Span{}); s != "-" || e != api.OK {
		t.Errorf("%q, error %d", s, e)
	}
}

// P1.7: 128 spans have a text, 129 do not.
func TestLongTexts(t *testing.T) {
	full := comb(api.MaxSpans, 10, 1, 3)
	s, e := span.Text(full)
	if e != api.OK || strings.Count(s, " ") != api.MaxSpans-1 {
		t.Fatalf("%q, error %d", s, e)
	}
	wantSet(t, full)(span.Parse(s))
	wantNoSet(t, api.ErrForm)(span.Parse("1..2 " + s))
	wantNoSet(t, api.ErrForm)(span.Parse(strings.Repeat(s+" ", 1000)))
}

// P1.7: strings that are the Text of no set.
func TestParseErrors(t *testing.T) {
	for _, s := range []string{
		"", " ", "  ", "..", ".. ..", ".", "a", "a..b", "1", "1..", "..1", "1.2", "1...2", "1....2", "1..2..3", "1 2", "1 ..2", "1.. 2", "1-2",
		"--", "- ", " -", "- -", "-..", "-..1", "1..-", "- 1..2", "1..2 -",
		" 1..2", "1..2 ", "1..2  4..5", "1..2\t4..5", "1..2\n", "1..2\n4..5", "1..2,4..5", "1..2\x00", "1..2;",
		"01..2", "1..02", "00..1", "-01..2", "+1..2", "1..+2", "-0..1", "-1..-0", "--1..2", "1_0..20", "0x1..2", "1e1..20", "0b1..2",
		"1..1", "2..1", "0..0", "1..3 3..5", "1..4 3..5", "5..9 1..3", "1..3 1..3", "1..3 5..5",
		"-1099511627777..0", "0..1099511627777", "-1099511627776..1099511627777",
		"0..9223372036854775807", "-9223372036854775808..0", "0..9223372036854775808", "0..18446744073709551617", "18446744073709551617..18446744073709551618",
		"0.." + strings.Repeat("9", 1000), strings.Repeat("0", 1000) + "..1", strings.Repeat(" ", 1000), strings.Repeat("1..2 ", 1000), strings.Repeat("-", 1000), strings.Repeat(".", 1000),
		"\u0661..\u0662", "1\u20252", "\xff..1", "1..2\u00a04..5",
	} {
		wantNoSet(t, api.ErrForm)(span.Parse(s))
	}
}

// P1.7, P1.13: of short strings of these characters, Parse takes just those
// that are the Text of the set that it returns.
func TestParseIsExact(t *testing.T) {
	const letters = "012.- "
	var spell func(s string)
	taken := 0
	spell = func(s string) {
		a, e := span.Parse(s)
		back, f := span.Text(a)
		switch {
		case e == api.OK && (back != s || f != api.OK):
			t.Fatalf("%q is parsed as %v, whose text is %q", s, a, back)
		case e == api.OK:
			taken++
		case e != api.ErrForm || len(a) != 0:
			t.Fatalf("%q: %v, error %d", s, a, e)
		}
		if len(s) < 6 {
			for _, c := range letters {
				spell(s + string(c))
			}
		}
	}
	spell("")
	// "-" is one, and else there is room for one span only.
	want := 1
	for lo := -1000; lo < 1000; lo++ {
		for hi := lo + 1; hi < 1000; hi++ {
			s, _ := span.Text(sp(lo, hi))
			if len(s) <= 6 && strings.Trim(s, letters) == "" {
				want++
			}
		}
	}
	if taken != want {
		t.Errorf("%d strings are taken; want %d", taken, want)
	}
}

// P1.13: Parse of Text is the set.
func TestParseOfText(t *testing.T) {
	for _, base := range bases() {
		for i := range 2 << window {
			a := masked(base, i>>1, i&1 == 1)
			s, e := span.Text(a)
			if e != api.OK {
				t.Fatalf("Text(%v): error %d", a, e)
			}
			wantSet(t, a)(span.Parse(s))
		}
	}
}
