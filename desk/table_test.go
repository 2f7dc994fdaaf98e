package desk_test

import (
	"slices"
	"testing"

	"kimberlite/api"
	"kimberlite/desk"
)

// A table is Play as the tests see it: one after the other, at a ledger.
type table struct {
	g      *ledger
	clerks []player
	order  []int
}

type player struct {
	steps []api.Op // an OpAdd is two: an OpRead, and an OpAdd that only writes
	at    int      // how many of them are done, or asked for
	txn   int
	done  bool
	asked bool // the last step, and it had to wait
	last  int  // what was read last
	reads []int
}

func newTable(values []int, scripts [][]api.Op) *table {
	b := &table{g: newLedger(values)}
	for _, script := range scripts {
		var p player
		for _, op := range script {
			if op.What == api.OpAdd {
				p.steps = append(p.steps, api.Op{What: api.OpRead, Item: op.Item})
			}
			p.steps = append(p.steps, op)
		}
		b.clerks = append(b.clerks, p)
	}
	return b
}

// turn is a turn of a clerk.
func (b *table) turn(c int) api.Errno {
	p := &b.clerks[c]
	if p.done || p.txn > 0 && b.g.of(p.txn).state == api.TxnWaiting {
		return api.OK
	}
	if p.txn == 0 || b.g.of(p.txn).state == api.TxnDead {
		txn, e := b.g.begin()
		p.txn, p.at, p.asked, p.reads = txn, 0, false, nil
		return e
	}
	if p.asked {
		p.asked = false
		if p.steps[p.at-1].What == api.OpRead {
			p.saw(b.g.of(p.txn).got)
		}
	}
	if p.at == len(p.steps) {
		p.done = true
		b.order = append(b.order, c)
		return b.g.commit(p.txn)
	}
	op := p.steps[p.at]
	p.at++
	e := b.do(p, op)
	if e == api.ErrLock {
		p.asked, e = true, api.OK
	}
	if e == api.ErrDead {
		e = api.OK
	}
	return e
}

func (p *player) saw(value int) {
	p.last = value
	p.reads = append(p.reads, value)
}

func (b *table) do(p *player, op api.Op) api.Errno {
	switch op.What {
	case api.OpRead:
		value, e := b.g.read(p.txn, op.Item)
		if e == api.OK {
			p.saw(value)
		}
		return e
	case api.OpAdd:
		op.Value += p.last
		if !isValue(op.Value) {
			return api.ErrRange
		}
	}
	return b.g.write(p.txn, op.Item, op.Value)
}

// played is what a play comes to, if its arguments are right.
func played(values []int, scripts [][]api.Op, turns []int) (api.Outcome, api.Errno) {
	b := newTable(values, scripts)
	for t := 0; len(b.order) < len(scripts); t++ {
		c := t % len(scripts)
		if t < len(turns) {
			c = turns[t]
		}
		if e := b.turn(c); e != api.OK {
			return api.Outcome{}, e
		}
	}
	o := api.Outcome{Values: b.g.values(), Order: b.order}
	for _, j := range b.g.jobs {
		if j.state == api.TxnDead {
			o.Deaths++
		}
	}
	for _, p := range b.clerks {
		o.Reads = append(o.Reads, p.reads)
	}
	return o, api.OK
}

// sameOutcome reports whether two outcomes are the same; empty lists are, nil or not.
func sameOutcome(a, b api.Outcome) bool {
	return slices.Equal(a.Values, b.Values) && slices.Equal(a.Order, b.Order) && a.Deaths == b.Deaths &&
		slices.EqualFunc(a.Reads, b.Reads, slices.Equal[[]int])
}

// wantPlayed fails unless Play comes to this.
func wantPlayed(t *testing.T, values []int, scripts [][]api.Op, turns []int, want api.Outcome, wantE api.Errno) {
	t.Helper()
	if got, e := desk.Play(values, scripts, turns); !sameOutcome(got, want) || e != wantE {
		t.Fatalf("Play of %v, %v, %v: %v, error %d; want %v, error %d", values, scripts, turns, got, e, want, wantE)
	}
}
