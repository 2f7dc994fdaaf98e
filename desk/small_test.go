package desk_test

import (
	"testing"

	"kimberlite/api"
	"kimberlite/desk"
)

// A pair is a desk and its ledger, which have seen the same calls.
type pair struct {
	d *desk.Desk
	g *ledger
}

// calls are all calls that a transaction can make now at a desk with two items, each on
// a copy.
func (p pair) calls(t *testing.T, txn int) []pair {
	t.Helper()
	copied := func() pair { return pair{p.d.Copy(), p.g.copy()} }
	var l []pair
	add := func(c pair, want, got api.Errno) {
		t.Helper()
		wantErrno(t, want, got)
		wantSame(t, c.d, c.g)
		l = append(l, c)
	}
	state := p.g.of(txn).state
	if state != api.TxnActive && state != api.TxnWaiting {
		return nil
	}
	c := copied()
	add(c, c.g.abort(txn), c.d.Abort(txn))
	if state == api.TxnWaiting {
		return l
	}
	c = copied()
	add(c, c.g.commit(txn), c.d.Commit(txn))
	for item := range 2 {
		c = copied()
		want, wantE := c.g.read(txn, item)
		got, e := c.d.Read(txn, item)
		if got != want {
			t.Fatalf("read %d; want %d", got, want)
		}
		add(c, wantE, e)
		c = copied()
		value := len(c.g.events) + 100*txn // is nowhere yet
		add(c, c.g.write(txn, item, value), c.d.Write(txn, item, value))
	}
	return l
}

// further makes all ways of so many calls by the first transactions of a desk.
func (p pair) further(t *testing.T, txns, calls int) int {
	t.Helper()
	if calls == 0 {
		return 1
	}
	ways := 0
	for txn := 1; txn <= txns; txn++ {
		for _, c := range p.calls(t, txn) {
			ways += c.further(t, txns, calls-1)
		}
	}
	return ways
}

// P9.1 to P9.4: all ways of a few calls by two, three or four transactions.
func TestAllWays(t *testing.T) {
	for _, c := range []struct{ txns, calls int }{{2, 5}, {3, 4}, {4, 3}} {
		p := pair{begun(t, 0, 1, 2), newLedger([]int{1, 2})}
		for range c.txns {
			p.d.Begin()
			p.g.begin()
		}
		if ways := p.further(t, c.txns, c.calls); ways < 10000 {
			t.Errorf("only %d ways", ways)
		}
	}
}

// lists are all scripts of up to two of these steps.
func lists(ops ...api.Op) [][]api.Op {
	l := [][]api.Op{nil}
	for _, one := range ops {
		l = append(l, script(one))
		for _, two := range ops {
			l = append(l, script(one, two))
		}
	}
	return l
}

// P9.5: two clerks with all short scripts, in several turns.
func TestAllScripts(t *testing.T) {
	all := lists(reads(0), reads(1), writes(0, 5), writes(1, 6), adds(0, 10), adds(1, 20))
	d := dice(3)
	deaths := 0
	for _, one := range all {
		for _, two := range all {
			turns := [][]int{nil, {1}, nil, nil, nil}
			for i := 2; i < len(turns); i++ {
				for range 10 {
					turns[i] = append(turns[i], d.next(2))
				}
			}
			for _, l := range turns {
				want, e := played([]int{1, 2}, [][]api.Op{one, two}, l)
				wantPlayed(t, []int{1, 2}, [][]api.Op{one, two}, l, want, e)
				deaths += want.Deaths
			}
		}
	}
	if deaths < 500 {
		t.Errorf("only %d deaths", deaths)
	}
}

// P9.5: two clerks, in all orders of the first ten turns.
func TestAllTurns(t *testing.T) {
	scripts := [][]api.Op{script(adds(0, 1), writes(1, 7)), script(reads(1), adds(0, 2))}
	outcomes := map[int]int{}
	for set := range 1 << 10 {
		var turns []int
		for i := range 10 {
			turns = append(turns, set>>i&1)
		}
		want, e := played([]int{0, 0}, scripts, turns)
		wantPlayed(t, []int{0, 0}, scripts, turns, want, e)
		outcomes[want.Deaths]++
	}
	if outcomes[0] < 50 || outcomes[1] < 50 {
		t.Errorf("so many ways have so many deaths: %v", outcomes)
	}
}

// P9.5: any clerks, in any turns.
func TestAnyPlays(t *testing.T) {
	count := map[api.Errno]int{}
	deaths := 0
	for round := range 4000 {
		d := dice(7000 + round)
		values, scripts, turns := anyPlay(&d)
		want, e := played(values, scripts, turns)
		wantPlayed(t, values, scripts, turns, want, e)
		count[e]++
		deaths = max(deaths, want.Deaths)
	}
	if count[api.OK] < 1000 || count[api.ErrRange] < 20 || deaths < 12 {
		t.Errorf("so many had these errors: %v; at most %d died", count, deaths)
	}
}

// anyPlay are right arguments of Play.
func anyPlay(d *dice) (values []int, scripts [][]api.Op, turns []int) {
	for range 1 + d.next(d.some(2, 4, 16)) {
		values = append(values, d.next(50))
	}
	if d.next(20) == 0 {
		values[0] = d.some(maxValue, -maxValue)
	}
	what := [][]int{{api.OpAdd}, {api.OpRead, api.OpWrite}, {api.OpRead, api.OpWrite, api.OpAdd}}[d.next(3)]
	for range 1 + d.next(6) {
		var l []api.Op
		for range d.next(d.some(3, 13)) {
			l = append(l, api.Op{What: d.some(what...), Item: d.next(len(values)), Value: d.next(30)})
		}
		scripts = append(scripts, l)
	}
	for range d.next(d.some(2, 40, 513)) {
		turns = append(turns, d.next(len(scripts)))
	}
	return values, scripts, turns
}
