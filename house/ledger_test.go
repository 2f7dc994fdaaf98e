package house_test

import (
	"fmt"
	"math/big"
	"regexp"
	"slices"
	"strconv"
	"strings"

	"kimberlite/api"
	"kimberlite/custody"
	"kimberlite/desk"
	"kimberlite/grade"
	"kimberlite/pair"
	"kimberlite/proof"
	"kimberlite/tender"
)

// ledger is a house as the chapter's words tell it: each command is tried on a copy, which
// takes the ledger's place if the command changes the house and is not refused.
type ledger struct {
	stones []api.Stone
	boxes  []box
	keys   *custody.Book
	open   [16]bool
	cents  [8]int
	sale   *tender.Tender
	lots   []string
	lines  []string
}

// box is a parcel.
type box struct {
	name   string
	stones []int
	where  string // as stones tells it
}

func newLedger() *ledger { return &ledger{keys: custody.New()} }

func (g *ledger) copy() *ledger {
	c := *g
	c.stones, c.boxes, c.lots, c.lines = slices.Clone(g.stones), slices.Clone(g.boxes), slices.Clone(g.lots), slices.Clip(g.lines)
	c.keys, c.sale = g.keys.Copy(), g.sale.Copy()
	return &c
}

// row is a row of the chapter's table: the kinds of the parameters (n a number, a name,
// set, grade, hash), those of the ones that come several times, and how many times.
type row struct {
	once, again string
	most        int
	looks       bool
}

func table() map[string]row {
	return map[string]row{
		"stone": {once: "ng"}, "parcel": {"a", "n", 12, false}, "sieve": {once: "aas"}, "class": {"aa", "g", 6, false},
		"join": {once: "aa"}, "day": {once: "n"}, "grant": {once: "nnnnn"}, "pass": {once: "nnnnnnn"},
		"revoke": {once: "nn"}, "open": {once: "nnnnn"}, "lock": {once: "n"}, "store": {once: "an"},
		"fetch": {once: "a"}, "tender": {"", "a", 6, false}, "seal": {once: "nh"}, "shut": {},
		"show": {"nh", "nn", 4, false}, "close": {}, "move": {"", "nnn", 6, false},
		"parcels": {looks: true}, "stones": {once: "a", looks: true}, "pairs": {once: "ang", looks: true}, "width": {once: "a", looks: true},
		"could": {once: "n", looks: true}, "balance": {once: "n", looks: true}, "prove": {once: "n", looks: true}, "audit": {looks: true},
	}
}

// kinds are those of n parameters, if there can be so many.
func (r row) kinds(n int) (string, bool) {
	if r.again == "" {
		return r.once, n == len(r.once)
	}
	for times := 1; times <= r.most; times++ {
		if kinds := r.once + strings.Repeat(r.again, times); len(kinds) == n {
			return kinds, true
		}
	}
	return "", false
}

// isKind reports whether a word is of a kind.
func isKind(kind rune, word string) bool {
	switch kind {
	case 'n':
		return between(word, "-"+maxNumber, maxNumber)
	case 'h':
		return between(word, "0", "18446744073709551615")
	case 'a':
		return regexp.MustCompile(`^[a-z][a-z0-9]{0,7}$`).MatchString(word)
	case 'g':
		parts := strings.Split(word, ".")
		return len(parts) == 3 && isKind('n', parts[0]) && isKind('n', parts[1]) && isKind('n', parts[2])
	}
	return isSet(word)
}

// between reports whether a word is a decimal number, written as it should be, that is
// from least to most.
func between(word, least, most string) bool {
	n, ok := new(big.Int).SetString(word, 10)
	if !ok || n.String() != word {
		return false
	}
	low, _ := new(big.Int).SetString(least, 10)
	high, _ := new(big.Int).SetString(most, 10)
	return n.Cmp(low) >= 0 && n.Cmp(high) <= 0
}

func isSet(word string) bool {
	const bound = "1099511627776"
	if word == "-" {
		return true
	}
	last := 0
	for i, part := range strings.Split(word, ",") {
		lo, hi, _ := strings.Cut(part, "..")
		if !between(lo, "-"+bound, bound) || !between(hi, "-"+bound, bound) {
			return false
		}
		if number(lo) >= number(hi) || i > 0 && last >= number(lo) {
			return false
		}
		last = number(hi)
	}
	return true
}

func number(word string) int {
	n, _ := strconv.Atoi(word)
	return n
}

func numbers(words []string) []int {
	var l []int
	for _, w := range words {
		l = append(l, number(w))
	}
	return l
}

func gradeOf(word string) api.Grade { return api.Grade(numbers(strings.Split(word, "."))) }

// refused is the panic of a command that is refused.
type refused api.Errno

func refuseIf(applies bool, e api.Errno) {
	if applies {
		panic(refused(e))
	}
}

func refuse(e api.Errno) { refuseIf(e != api.OK, e) }

// exec is the reply of a line.
func (g *ledger) exec(line string) string {
	if strings.Trim(line, " ") == "" {
		return ""
	}
	if len(line) > 200 || regexp.MustCompile(`[^ -~]`).MatchString(line) {
		return "? line"
	}
	return g.obey(strings.Fields(line))
}

func (g *ledger) obey(words []string) string {
	if words[0] == "if" && len(words) > 1 {
		return g.copy().obey(words[1:])
	}
	r, ok := table()[words[0]]
	kinds, many := r.kinds(len(words) - 1)
	if !ok || !many {
		return "? line"
	}
	for i, kind := range kinds {
		if !isKind(kind, words[i+1]) {
			return fmt.Sprint("? word ", i+1)
		}
	}
	c := g.copy()
	reply, e := c.try(words[0], words[1:])
	if e == api.OK && !r.looks && len(g.lines) == 4096 {
		e = api.ErrFull
	}
	if e != api.OK {
		return fmt.Sprint("! ", int(e))
	}
	if !r.looks {
		c.lines = append(c.lines, strings.Join(words, " "))
		*g = *c
	}
	return reply
}

// try carries out a command, and gives the error by which it is refused.
func (g *ledger) try(name string, p []string) (reply string, e api.Errno) {
	defer func() {
		if r, ok := recover().(refused); ok {
			e = api.Errno(r)
		}
	}()
	n := numbers(p)
	switch name {
	case "stone", "parcel", "sieve", "class", "join":
		return g.sort(name, p, n), api.OK
	case "day", "grant", "pass", "revoke", "open", "lock", "store", "fetch":
		return g.guard(name, p, n), api.OK
	case "tender", "seal", "shut", "show", "close":
		return g.sell(name, p, n), api.OK
	case "move":
		return g.move(n), api.OK
	}
	return g.look(name, p, n), api.OK
}

// at is where a parcel is among the boxes, or -1.
func (g *ledger) at(name string) int {
	return slices.IndexFunc(g.boxes, func(b box) bool { return b.name == name })
}

// must is a parcel, which must be there.
func (g *ledger) must(name string) *box {
	refuseIf(g.at(name) < 0, api.ErrNone)
	return &g.boxes[g.at(name)]
}

// free is a parcel that must be at hand.
func (g *ledger) free(name string) *box {
	b := g.must(name)
	refuseIf(b.where != "hand" || slices.Contains(g.lots, name), api.ErrState)
	return b
}

// add adds a parcel.
func (g *ledger) add(name string, stones []int) {
	refuseIf(len(g.boxes) == 32, api.ErrFull)
	g.boxes = append(g.boxes, box{name, stones, "hand"})
}

func isGrade(g api.Grade) bool {
	return min(g[0], g[1], g[2]) >= 0 && max(g[0], g[1], g[2]) <= 11
}

func (g *ledger) sort(name string, p []string, n []int) string {
	switch name {
	case "stone":
		refuseIf(n[0] < 1 || n[0] > 1<<30 || !isGrade(gradeOf(p[1])), api.ErrArg)
		refuseIf(len(g.stones) == 64, api.ErrFull)
		g.stones = append(g.stones, api.Stone{Size: n[0], Grade: gradeOf(p[1])})
		return fmt.Sprint("stone ", len(g.stones))
	case "parcel":
		return g.parcel(p[0], n[1:])
	case "join":
		from := g.free(p[0])
		refuseIf(g.at(p[1]) < 0, api.ErrNone)
		refuseIf(p[0] == p[1], api.ErrArg)
		to := g.free(p[1])
		got := len(from.stones)
		to.stones = slices.Sorted(slices.Values(slices.Concat(to.stones, from.stones)))
		g.boxes = slices.Delete(g.boxes, g.at(p[0]), g.at(p[0])+1)
		return fmt.Sprint(got)
	}
	return g.part(name, p)
}

func (g *ledger) parcel(name string, stones []int) string {
	refuseIf(g.at(name) >= 0, api.ErrExists)
	taken := map[int]bool{}
	for _, b := range g.boxes {
		for _, s := range b.stones {
			taken[s] = true
		}
	}
	for _, s := range stones {
		refuseIf(s < 1 || s > len(g.stones), api.ErrNone)
		refuseIf(taken[s], api.ErrState)
		taken[s] = true
	}
	g.add(name, slices.Sorted(slices.Values(stones)))
	return "ok"
}

// part is sieve and class.
func (g *ledger) part(name string, p []string) string {
	from := g.free(p[0])
	wants := func(s api.Stone) bool {
		for _, part := range strings.Split(p[2], ",") {
			lo, hi, ok := strings.Cut(part, "..")
			if ok && number(lo) <= s.Size && s.Size < number(hi) {
				return true
			}
		}
		return false
	}
	if name == "class" {
		for _, w := range p[2:] {
			refuseIf(!isGrade(gradeOf(w)), api.ErrArg)
		}
		wants = func(s api.Stone) bool {
			return slices.ContainsFunc(p[2:], func(w string) bool { return grade.Below(gradeOf(w), s.Grade) })
		}
	}
	refuseIf(g.at(p[1]) >= 0, api.ErrExists)
	var got, left []int
	for _, s := range from.stones {
		if wants(g.stones[s-1]) {
			got = append(got, s)
		} else {
			left = append(left, s)
		}
	}
	refuseIf(len(got) == 0, api.ErrPlan)
	g.add(p[1], got)
	g.must(p[0]).stones = left
	if len(left) == 0 {
		g.boxes = slices.Delete(g.boxes, g.at(p[0]), g.at(p[0])+1)
	}
	return fmt.Sprint(len(got))
}

// guard is what has to do with vaults.
func (g *ledger) guard(name string, p []string, n []int) string {
	switch name {
	case "day":
		before := g.keys.Day()
		refuse(g.keys.Next(n[0]))
		if g.keys.Day() != before {
			g.open = [16]bool{}
		}
	case "grant":
		no, e := g.keys.Grant(n[0], n[1], n[2], n[3], n[4])
		refuse(e)
		return fmt.Sprint("grant ", no)
	case "pass":
		no, e := g.keys.Pass(n[0], n[1], n[2], n[3], n[4], n[5], n[6])
		refuse(e)
		return fmt.Sprint("grant ", no)
	case "revoke":
		count, e := g.keys.Revoke(n[0], n[1])
		refuse(e)
		return fmt.Sprint(count)
	case "open":
		refuseIf(n[0] < 0 || n[0] > 15, api.ErrArg)
		refuseIf(g.open[n[0]], api.ErrState)
		refuse(g.keys.Open(n[0], n[1], n[2], n[3], n[4]))
		g.open[n[0]] = true
	case "lock":
		refuseIf(n[0] < 0 || n[0] > 15, api.ErrArg)
		refuseIf(!g.open[n[0]], api.ErrState)
		g.open[n[0]] = false
	case "store":
		b := g.free(p[0])
		refuseIf(n[1] < 0 || n[1] > 15, api.ErrArg)
		refuseIf(!g.open[n[1]], api.ErrKey)
		b.where = fmt.Sprint("vault", n[1])
	case "fetch":
		b := g.must(p[0])
		vault, in := strings.CutPrefix(b.where, "vault")
		refuseIf(!in || slices.Contains(g.lots, p[0]), api.ErrState)
		refuseIf(!g.open[number(vault)], api.ErrKey)
		b.where = "hand"
	}
	return "ok"
}

// sell is what has to do with tenders.
func (g *ledger) sell(name string, p []string, n []int) string {
	if name == "tender" {
		refuseIf(g.sale != nil, api.ErrState)
		for i, lot := range p {
			refuseIf(g.must(lot).where == "sold", api.ErrState)
			refuseIf(slices.Index(p, lot) < i, api.ErrExists)
		}
		g.sale, _ = tender.New(len(p))
		g.lots = p
		return "ok"
	}
	refuseIf(g.sale == nil, api.ErrNone)
	refuseIf((name == "seal" || name == "show") && (n[0] < 1 || n[0] > 7), api.ErrArg)
	switch name {
	case "seal":
		hash, _ := strconv.ParseUint(p[1], 10, 64)
		refuse(g.sale.Submit(n[0], hash))
	case "shut":
		refuse(g.sale.Shut())
	case "show":
		hash, _ := strconv.ParseUint(p[1], 10, 64)
		var offers []api.Offer
		for i := 2; i < len(n); i += 2 {
			offers = append(offers, api.Offer{Buyer: n[0], Lots: n[i], Price: n[i+1]})
		}
		refuse(g.sale.Show(n[0], offers, hash))
	case "close":
		return g.close()
	}
	return "ok"
}

func (g *ledger) close() string {
	award, offers, e := g.sale.Close()
	refuse(e)
	reply := fmt.Sprint(award.Worth)
	for i, taken := range award.Taken {
		o, pays := offers[taken], award.Pays[i]
		reply += fmt.Sprintf(" %d:%d", o.Buyer, pays)
		g.cents[o.Buyer] -= pays
		g.cents[0] += pays
		refuseIf(g.cents[o.Buyer] < -1<<40 || g.cents[0] > 1<<40, api.ErrRange)
		for lot, parcel := range g.lots {
			if o.Lots&(1<<lot) != 0 {
				g.must(parcel).where = "sold"
			}
		}
	}
	g.sale, g.lots = nil, nil
	return reply
}

func (g *ledger) move(n []int) string {
	var scripts [][]api.Op
	was := g.cents
	for i := 0; i < len(n); i += 3 {
		from, to, cents := n[i], n[i+1], n[i+2]
		refuseIf(from < 0 || from > 7 || to < 0 || to > 7 || cents < 1 || cents > 1<<30, api.ErrArg)
		scripts = append(scripts, []api.Op{{What: api.OpAdd, Item: from, Value: -cents}, {What: api.OpAdd, Item: to, Value: cents}})
		g.cents[from] -= cents
		g.cents[to] += cents
	}
	o, e := desk.Play(was[:], scripts, nil)
	refuse(e)
	return words(append(o.Order, o.Deaths)...)
}

// look is what only looks.
func (g *ledger) look(name string, p []string, n []int) string {
	switch name {
	case "parcels":
		var names []string
		for _, b := range g.boxes {
			names = append(names, b.name)
		}
		slices.Sort(names)
		return strings.Join(names, " ")
	case "stones":
		b := g.must(p[0])
		return b.where + " " + words(b.stones...)
	case "pairs":
		return g.pairs(g.must(p[0]), n[1], gradeOf(p[2]))
	case "width":
		return g.width(g.must(p[0]))
	case "could":
		vaults, e := g.keys.Could(n[0])
		refuse(e)
		return fmt.Sprint(vaults)
	case "balance":
		refuseIf(n[0] < 0 || n[0] > 7, api.ErrArg)
		return fmt.Sprint(g.cents[n[0]])
	case "prove":
		return g.prove(n[0])
	}
	a := g.audit()
	return fmt.Sprintf("good %d %d %d %d %d %d %d", a.Commands, a.Stones, a.Loose, a.Parcels, a.Sold, a.Money, a.Root)
}

func (g *ledger) pairs(b *box, most int, apart api.Grade) string {
	var stones []api.Stone
	for _, s := range b.stones {
		stones = append(stones, g.stones[s-1])
	}
	edges, e := pair.Edges(stones, most, apart)
	refuse(e)
	mates, count, _ := pair.Match(len(stones), edges)
	reply := fmt.Sprint(count)
	for i, mate := range mates {
		if mate != len(stones) && mate > i {
			reply += fmt.Sprintf(" %d:%d", b.stones[i], b.stones[mate])
		}
	}
	return reply
}

func (g *ledger) width(b *box) string {
	var grades []api.Grade
	for _, s := range b.stones {
		grades = append(grades, g.stones[s-1].Grade)
	}
	count, apart, e := grade.Width(grades)
	refuse(e)
	reply := fmt.Sprint(count)
	for _, i := range apart {
		reply += fmt.Sprint(" ", b.stones[i])
	}
	return reply
}

// entries are the lines as entries of a log.
func (g *ledger) entries() [][]byte {
	var l [][]byte
	for _, line := range g.lines {
		l = append(l, []byte(line))
	}
	return l
}

func (g *ledger) prove(i int) string {
	root, _ := proof.Root(g.entries())
	steps, e := proof.Include(g.entries(), i)
	refuse(e)
	reply := fmt.Sprint(root)
	for _, s := range steps {
		reply += fmt.Sprint(" ", map[bool]string{true: "L", false: "R"}[s.Left], s.Hash)
	}
	return reply
}

func (g *ledger) audit() api.Audit {
	root, _ := proof.Root(g.entries())
	a := api.Audit{Commands: len(g.lines), Stones: len(g.stones), Loose: len(g.stones), Parcels: len(g.boxes), Root: root, Good: true}
	for _, b := range g.boxes {
		a.Loose -= len(b.stones)
		if b.where == "sold" {
			a.Sold += len(b.stones)
		}
	}
	return a
}
