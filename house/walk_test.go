package house_test

import (
	"slices"
	"strconv"
	"strings"
	"testing"

	"kimberlite/api"
	"kimberlite/house"
)

// walker takes a house and its ledger through the same lines.
type walker struct {
	t     *testing.T
	d     *dice
	h     *house.House
	g     *ledger
	sales map[int]sale // what the buyers sealed last
	count map[string]int

	grants int
}

// sale is what a buyer sealed: a salt, and pairs of lots and a price.
type sale struct {
	salt  uint64
	pairs []int
}

func newWalker(t *testing.T, d *dice) *walker {
	return &walker{t, d, house.New(), newLedger(), map[int]sale{}, map[string]int{}, 0}
}

// say fails unless a line has the ledger's reply, and counts the line.
func (w *walker) say(line string) string {
	w.t.Helper()
	want, got := w.g.exec(line), w.h.Exec(line)
	if got != want {
		w.t.Fatalf("%q: %q; want %q; after\n%s", line, got, want, strings.Join(w.g.lines, "\n"))
	}
	name, _, _ := strings.Cut(line, " ")
	switch {
	case strings.HasPrefix(want, "? word"):
		name = "? word"
	case strings.HasPrefix(want, "?"):
		name = "? line"
	case strings.HasPrefix(want, "!"):
		name += " " + want
	}
	w.count[name]++
	if name == "grant" || name == "pass" {
		w.grants++
	}
	return want
}

// wantSame fails unless house and ledger show the same.
func (w *walker) wantSame() {
	w.t.Helper()
	if got := w.h.Book(); !slices.Equal(got, w.g.lines) {
		w.t.Fatalf("book %q; want %q", got, w.g.lines)
	}
	if got, want := w.h.Audit(), w.g.audit(); got != want {
		w.t.Fatalf("audit %v; want %v", got, want)
	}
	for _, b := range w.g.boxes {
		w.say("stones " + b.name)
	}
	for account := range 8 {
		w.say("balance " + strconv.Itoa(account))
	}
	w.say("parcels")
	w.say("audit")
}

// odd is mostly usual, and now and then something else.
func odd[T any](d *dice, usual T, l ...T) T {
	if d.next(25) > 0 {
		return usual
	}
	return some(d, l...)
}

// name is that of a parcel, mostly of one that is there, and here.
func (w *walker) name(where string) string {
	name := w.fresh()
	if len(w.g.boxes) == 0 || w.d.next(15) == 0 {
		return name
	}
	for range 4 {
		b := some(w.d, w.g.boxes...)
		name = b.name
		if strings.HasPrefix(b.where, where) {
			break
		}
	}
	return name
}

func (w *walker) free() string { return w.name("hand") }

// fresh is the name of a parcel, mostly of one that there is not.
func (w *walker) fresh() string { return "p" + strconv.Itoa(w.d.next(90)) }

// stoneNo is the number of a stone, mostly of a loose one.
func (w *walker) stoneNo() string {
	no := 0
	for range 3 {
		no = odd(w.d, 1+w.d.next(len(w.g.stones)+1), 0, -1, len(w.g.stones)+1)
		if !slices.ContainsFunc(w.g.boxes, func(b box) bool { return slices.Contains(b.stones, no) }) {
			break
		}
	}
	return strconv.Itoa(no)
}

func (w *walker) gradeWord() string {
	g := make([]string, 3)
	for i := range g {
		g[i] = strconv.Itoa(some(w.d, 0, 1, 2, 3, w.d.next(12)))
	}
	if w.d.next(30) == 0 {
		g[w.d.next(3)] = some(w.d, "-1", "12", maxNumber)
	}
	return strings.Join(g, ".")
}

func (w *walker) set() string {
	var l []string
	at := w.d.next(30) - 1
	for range 1 + w.d.next(3) {
		end := at + 1 + w.d.next(40)
		l = append(l, strconv.Itoa(at)+".."+strconv.Itoa(end))
		at = end + 1 + w.d.next(10)
	}
	return strings.Join(l, ",")
}

// several are so many words, from least on.
func (w *walker) several(least, most int, word func() string) string {
	var l []string
	for range least + w.d.next(most-least+1) {
		l = append(l, word())
	}
	return strings.Join(l, " ")
}

// sorting is a line about stones and parcels.
func (w *walker) sorting() string {
	switch w.d.next(9) {
	case 0, 1:
		return "stone " + strconv.Itoa(odd(w.d, 1+w.d.next(100), 0, -1, 1<<30, 1<<30+1)) + " " + w.gradeWord()
	case 2, 3:
		return "parcel " + w.fresh() + " " + w.several(1, 1+w.d.next(5), w.stoneNo)
	case 4, 5:
		return "sieve " + w.free() + " " + w.fresh() + " " + w.set()
	case 6, 7:
		return "class " + w.free() + " " + w.fresh() + " " + w.several(1, 3, w.gradeWord)
	}
	return "join " + w.free() + " " + w.free()
}

// grantNo is the number of a grant, mostly of one that stands, and its holder, or somebody
// else now and then.
func (w *walker) grantNo() string {
	no, holder := 0, 0
	for range 6 {
		no = odd(w.d, 1+w.d.next(w.grants+1), 0, -1)
		g, _ := w.g.keys.Get(no)
		holder = g.Holder
		if stands, _ := w.g.keys.Stands(no); stands {
			break
		}
	}
	return words(no, odd(w.d, holder, -1, 0, 1, 2, 16))
}

func (w *walker) terms() string {
	d := w.d
	vaults, until := some(d, 7, 7, 1+d.next(7)), w.g.keys.Day()+d.next(9)
	return words(odd(d, d.next(4), -1, 16), odd(d, vaults, 0, 65536), odd(d, some(d, 1, 3, 3, 3), 0, 4), odd(d, until, -1), odd(d, some(d, -1, -1, 2, 9), 0))
}

func (w *walker) vault() string {
	return strconv.Itoa(odd(w.d, w.d.next(3), 15, -1, 16))
}

// guarding is a line about grants and vaults.
func (w *walker) guarding() string {
	switch w.d.next(32) {
	case 0:
		return "day " + strconv.Itoa(w.g.keys.Day()+some(w.d, 0, 0, 1, 1, -1))
	case 1, 2, 3:
		return "grant " + w.terms()
	case 4, 5, 6, 7:
		return "pass " + w.grantNo() + " " + w.terms()
	case 8:
		return "revoke " + some(w.d, w.grantNo(), words(1+w.d.next(w.grants+1), w.d.next(4)))
	case 9, 10:
		return "lock " + w.vault()
	case 11, 12, 13, 14, 15:
		return "store " + w.free() + " " + w.vault()
	case 16, 17, 18, 19, 20, 21, 22:
		return "fetch " + w.name("vault")
	}
	line := ""
	for range 8 {
		line = "open " + w.vault() + " " + w.grantNo() + " " + w.grantNo()
		if w.g.copy().exec(line) == "ok" {
			break
		}
	}
	return line
}

// selling is a line about a tender, mostly of one that can be carried out now.
func (w *walker) selling() string {
	state := 2
	if w.g.sale != nil {
		state = w.g.sale.State()
	}
	buyer := odd(w.d, 1+w.d.next(7), 0, 8, -1)
	if w.d.next(9) == 0 {
		state = w.d.next(3)
	}
	switch {
	case state == api.TenderDone:
		return "tender " + w.several(1, 1+w.d.next(6), w.free)
	case state == api.TenderOpen && w.d.next(8) > 0:
		return w.seal(buyer)
	case state == api.TenderOpen:
		return "shut"
	case w.d.next(8) > 0:
		return w.show(buyer)
	}
	return "close"
}

func (w *walker) seal(buyer int) string {
	d := w.d
	s := sale{salt: uint64(d.next(3))}
	for range 1 + d.next(4) {
		s.pairs = append(s.pairs, 1+d.next(1<<len(w.g.lots)), 1+d.next(1000))
	}
	if d.next(15) == 0 {
		s.pairs[d.next(len(s.pairs))] = some(d, 0, -1, 64, 1<<30, 1<<30+1)
	}
	w.sales[buyer] = s
	return "seal " + strconv.Itoa(buyer) + " " + sealed(buyer, s.salt, s.pairs...)
}

// show is for a buyer, or the next one who sealed something.
func (w *walker) show(buyer int) string {
	for range 8 {
		if _, ok := w.sales[buyer]; ok {
			break
		}
		buyer = (buyer + 1) % 8
	}
	s := w.sales[buyer]
	if w.d.next(3) > 0 {
		delete(w.sales, buyer)
	}
	if len(s.pairs) == 0 {
		s.pairs = []int{1, 1}
	}
	return "show " + strconv.Itoa(buyer) + " " + strconv.FormatUint(s.salt+uint64(w.d.next(20)/19), 10) + " " + words(s.pairs...)
}

// moving is a line about money.
func (w *walker) moving() string {
	d := w.d
	return "move " + w.several(1, 6, func() string {
		account := func() int { return some(d, d.next(8), d.next(8), d.next(3), d.next(3)) - d.next(90)/89 }
		return words(account(), account()+d.next(90)/89, some(d, 1, d.next(1000), d.next(1000)+1, maxCents-d.next(2)+d.next(20)/19))
	})
}

// looking is a line that only looks.
func (w *walker) looking() string {
	d := w.d
	switch d.next(9) {
	case 0:
		return "stones " + w.name("sold")
	case 1:
		return "pairs " + w.name("") + " " + strconv.Itoa(some(d, 0, 5, 20, 100, 1<<30, 1<<30+1, -1)) + " " + some(d, "0.0.0", "2.2.2", "11.11.11", w.gradeWord())
	case 2, 3:
		return "width " + w.name("")
	case 4:
		return "could " + strconv.Itoa(some(d, d.next(16), d.next(16), d.next(16), 65535, 65536, -1))
	case 5:
		return "balance " + strconv.Itoa(d.next(10)-1)
	case 6:
		return "prove " + strconv.Itoa(d.next(len(w.g.lines)+2)-d.next(10)/9)
	}
	return some(d, "parcels", "audit")
}

// spoiled is a line that may have become a wrong one, or another one.
func (w *walker) spoiled(line string) string {
	d := w.d
	l := strings.Split(line, " ")
	at := d.next(len(l))
	switch d.next(9) {
	case 0, 1:
		l[at] = some(d, "-", "0", "-1", "-0", "00", "x", "1.2.3", "1..2", "1e1", maxNumber, "1125899906842625", "18446744073709551616", "Ab", "abcdefghi", "~")
	case 2:
		l = slices.Delete(l, at, at+1)
	case 3:
		l = slices.Insert(l, at, some(d, "1", "a", "if"))
	case 4:
		l[at] = strings.Repeat(" ", d.next(3)) + l[at] + strings.Repeat(" ", d.next(3))
	case 5:
		l[at] += some(d, "\t", "\n", "\x1f", "\x7f", "\xff", "é", "!", ".")
	case 6:
		return strings.Repeat(" ", max(0, some(d, maxLine, maxLine, maxLine+1)-len(line))) + line
	default:
		return "if " + line
	}
	return strings.Join(l, " ")
}

// step carries out a line, or goes on with a copy.
func (w *walker) step() {
	w.t.Helper()
	var line string
	switch n := w.d.next(100); {
	case n < 36:
		line = w.sorting()
	case n < 66:
		line = w.guarding()
	case n < 85:
		line = w.selling()
	case n < 88:
		line = w.moving()
	case n < 98:
		line = w.looking()
	default:
		old := w.h
		w.h = old.Copy()
		old.Run("stone 5 1.1.1\nparcel old 1\nsieve p1 old 0..20\nday 1000000\ngrant 9 9 1 9 9\nlock 0\nshut\nclose\nmove 1 2 3\n")
		return
	}
	if w.d.next(15) == 0 {
		line = w.spoiled(line)
	}
	w.say(line)
}

// P10.2 to P10.12: any lines in any order, all errors, and copies.
func TestWalks(t *testing.T) {
	count := map[string]int{}
	for round := range 300 {
		d := dice(round)
		w := newWalker(t, &d)
		w.count = count
		for i := range 300 {
			w.step()
			if i%50 == 49 {
				w.wantSame()
			}
		}
	}
	for _, s := range strings.Split(`? line,? word,if,stone,stone ! 2,parcel,parcel ! 6,parcel ! 7,parcel ! 9,
		sieve,sieve ! 6,sieve ! 7,sieve ! 9,sieve ! 10,class,class ! 2,class ! 6,class ! 7,class ! 9,class ! 10,
		join,join ! 2,join ! 6,join ! 9,day,day ! 2,day ! 9,grant,grant ! 2,pass,pass ! 2,pass ! 6,pass ! 12,
		revoke,revoke ! 6,revoke ! 9,revoke ! 12,open,open ! 2,open ! 6,open ! 8,open ! 9,open ! 12,open ! 13,
		lock,lock ! 2,lock ! 9,store,store ! 2,store ! 6,store ! 9,store ! 13,fetch,fetch ! 6,fetch ! 9,fetch ! 13,
		tender,tender ! 6,tender ! 7,tender ! 9,seal,seal ! 2,seal ! 6,seal ! 9,shut,shut ! 6,shut ! 9,
		show,show ! 2,show ! 6,show ! 7,show ! 9,show ! 11,close,close ! 6,close ! 9,move,move ! 2,
		parcels,stones,stones ! 6,pairs,pairs ! 2,pairs ! 6,width,width ! 6,could,could ! 2,
		balance,balance ! 2,prove,prove ! 6,audit`, ",") {
		if count[strings.TrimSpace(s)] < 15 {
			t.Errorf("%s came only %d times", s, count[s])
		}
	}
}

// P10.11: ways on which the log becomes full, and beyond.
func TestLongWalks(t *testing.T) {
	for round := range 2 {
		d := dice(1000 + round)
		w := newWalker(t, &d)
		for range 300 + 500*round {
			w.step()
		}
		for range maxEntries - 20 - len(w.g.lines) {
			w.say("move 7 7 1")
		}
		for w.count["stone ! 8"] < 8 {
			w.step()
		}
		w.wantSame()
		if len(w.g.lines) != maxEntries {
			t.Errorf("round %d: %d commands", round, len(w.g.lines))
		}
	}
}
