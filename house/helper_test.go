package house_test

import (
	"slices"
	"strconv"
	"strings"
	"testing"

	"kimberlite/api"
	"kimberlite/house"
	"kimberlite/tender"
)

const (
	maxTaken   = 64
	maxParcels = 32
	maxLine    = 200
	maxEntries = 4096
	maxCents   = 1 << 30
	maxValue   = 1 << 40
	maxNumber  = "1125899906842624"
)

// want fails unless each line has the reply that stands behind it.
func want(t *testing.T, h *house.House, lines ...string) {
	t.Helper()
	for i := 0; i+1 < len(lines); i += 2 {
		if got := h.Exec(lines[i]); got != lines[i+1] {
			t.Fatalf("%q: %q; want %q", lines[i], got, lines[i+1])
		}
	}
}

// wantAll fails unless all lines have this reply.
func wantAll(t *testing.T, h *house.House, reply string, lines ...string) {
	t.Helper()
	for _, line := range lines {
		want(t, h, line, reply)
	}
}

// wantRefused fails unless all lines are refused by this error, and change nothing.
func wantRefused(t *testing.T, h *house.House, e api.Errno, lines ...string) {
	t.Helper()
	before := shown(h)
	wantAll(t, h, "! "+strconv.Itoa(int(e)), lines...)
	if after := shown(h); after != before {
		t.Fatalf("refused: %q; before:\n%sthen:\n%s", lines, before, after)
	}
}

// do carries out lines that stand between semicolons, none of which is refused.
func do(t *testing.T, h *house.House, lines string) {
	t.Helper()
	for _, line := range strings.Split(lines, ";") {
		if reply := h.Exec(line); strings.HasPrefix(reply, "!") || strings.HasPrefix(reply, "?") {
			t.Fatalf("%q: %q", line, reply)
		}
	}
}

// built is a house in which such lines were carried out.
func built(t *testing.T, lines string) *house.House {
	t.Helper()
	h := house.New()
	do(t, h, lines)
	return h
}

// shown is what a house shows, but for what a tender keeps sealed, and for what nobody could
// open.
func shown(h *house.House) string {
	book := h.Book()
	lines := []string{"parcels", "could 3", "could 65535", "if day 0", "if grant 0 1 1 0 1", "if shut", "if close", "if tender nowhere"}
	if len(book) < 1000 { // an audit of a long log takes its time
		lines = append(lines, "audit")
	}
	for _, name := range strings.Fields(h.Exec("parcels")) {
		lines = append(lines, "stones "+name)
	}
	for account := range 8 {
		lines = append(lines, "balance "+strconv.Itoa(account))
	}
	for vault := range 16 {
		lines = append(lines, "if lock "+strconv.Itoa(vault))
	}
	var all strings.Builder
	for _, line := range lines {
		all.WriteString(line + ": " + h.Exec(line) + "\n")
	}
	return strings.Join(book, "\n") + "\n" + all.String()
}

// sealed is the seal of offers, in pairs of lots and a price.
func sealed(buyer int, salt uint64, pairs ...int) string {
	var offers []api.Offer
	for i := 0; i+1 < len(pairs); i += 2 {
		offers = append(offers, api.Offer{Buyer: buyer, Lots: pairs[i], Price: pairs[i+1]})
	}
	return strconv.FormatUint(tender.Seal(offers, salt), 10)
}

// words are numbers with blanks between.
func words(numbers ...int) string {
	var l []string
	for _, n := range numbers {
		l = append(l, strconv.Itoa(n))
	}
	return strings.Join(l, " ")
}

// repeat is a line so many times, with semicolons between.
func repeat(line string, n int) string { return strings.Join(slices.Repeat([]string{line}, n), ";") }

// richest is a house in which the account 1 has the greatest value that there is, and the
// account 0 the least.
func richest(t *testing.T) *house.House {
	t.Helper()
	return built(t, repeat("move"+strings.Repeat(" 0 1 1073741824", 4), maxValue/maxCents/4))
}

// fill fills the log of a house, but for so many entries.
func fill(t *testing.T, h *house.House, left int) {
	t.Helper()
	for range maxEntries - left - len(h.Book()) {
		do(t, h, "move 7 7 1")
	}
}

// dice gives numbers that are always the same ones.
type dice uint64

// next is a number from 0 to n - 1.
func (d *dice) next(n int) int {
	*d = *d*6364136223846793005 + 1442695040888963407
	return int(*d>>33) % n
}

// some is one of a list.
func some[T any](d *dice, l ...T) T { return l[d.next(len(l))] }
