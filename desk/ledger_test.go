package desk_test

import (
	"maps"
	"slices"
	"testing"

	"kimberlite/api"
	"kimberlite/desk"
)

// Kinds of locks.
const (
	shared    = 1
	exclusive = 2
)

// fit reports whether two locks of different transactions on one item are compatible.
func fit(one, two int) bool { return one == shared && two == shared }

// request is what a transaction waits for.
type request struct{ txn, lock, value int }

// job is a transaction.
type job struct {
	state int
	// locks are by items; undo is, by items, what was there before the first write.
	locks, undo map[int]int
	had         bool
	got         int
}

// ledger is a desk as the tests see it, in the chapter's words: it writes to the items
// at once, and undoes that from notes; and looks for rings by whatever leads to what.
type ledger struct {
	now    []int
	jobs   []job
	lines  [][]request
	events []api.Event
}

func newLedger(values []int) *ledger {
	return &ledger{now: slices.Clone(values), lines: make([][]request, len(values))}
}

func (g *ledger) copy() *ledger {
	c := &ledger{now: slices.Clone(g.now), events: slices.Clone(g.events)}
	for _, j := range g.jobs {
		j.locks, j.undo = maps.Clone(j.locks), maps.Clone(j.undo)
		c.jobs = append(c.jobs, j)
	}
	for _, l := range g.lines {
		c.lines = append(c.lines, slices.Clone(l))
	}
	return c
}

func (g *ledger) of(txn int) *job { return &g.jobs[txn-1] }

func (g *ledger) isTxn(txn int) bool { return txn >= 1 && txn <= len(g.jobs) }

func (g *ledger) isItem(item int) bool { return item >= 0 && item < len(g.now) }

func (g *ledger) begin() (int, api.Errno) {
	if len(g.jobs) == maxTxns {
		return 0, api.ErrFull
	}
	g.jobs = append(g.jobs, job{locks: map[int]int{}, undo: map[int]int{}})
	return len(g.jobs), api.OK
}

// refused is the error that comes first of all.
func (g *ledger) refused(txn int) api.Errno {
	if !g.isTxn(txn) {
		return api.ErrNone
	}
	return []api.Errno{api.TxnDone: api.ErrState, api.TxnDead: api.ErrDead, api.TxnWaiting: api.ErrLock, api.TxnActive: api.OK}[g.of(txn).state]
}

func (g *ledger) read(txn, item int) (int, api.Errno) { return g.step(item, request{txn, shared, 0}) }

func (g *ledger) write(txn, item, value int) api.Errno {
	_, e := g.step(item, request{txn, exclusive, value})
	return e
}

func (g *ledger) commit(txn int) api.Errno {
	if e := g.refused(txn); e != api.OK {
		return e
	}
	g.leave(txn, api.TxnDone)
	return api.OK
}

func (g *ledger) abort(txn int) api.Errno {
	if e := g.refused(txn); e != api.OK && e != api.ErrLock {
		return e
	}
	g.leave(txn, api.TxnDead)
	return api.OK
}

func (g *ledger) step(item int, r request) (int, api.Errno) {
	if e := g.refused(r.txn); e != api.OK {
		return 0, e
	}
	if !g.isItem(item) || !isValue(r.value) {
		return 0, api.ErrArg
	}
	j := g.of(r.txn)
	j.had, j.got = false, 0
	if j.locks[item] >= r.lock || g.fits(item, r) && (len(g.lines[item]) == 0 || j.locks[item] == shared) {
		return g.do(item, r), api.OK
	}
	j.state = api.TxnWaiting
	at := len(g.lines[item])
	if j.locks[item] == shared {
		at = 0
		for i, other := range g.lines[item] {
			if g.of(other.txn).locks[item] == shared {
				at = i + 1
			}
		}
	}
	g.lines[item] = slices.Insert(g.lines[item], at, r)
	for {
		ring := g.ring(r.txn)
		if len(ring) == 0 {
			break
		}
		g.leave(slices.Max(ring), api.TxnDead)
	}
	if j.state == api.TxnDead {
		return 0, api.ErrDead
	}
	return 0, api.ErrLock
}

// fits reports whether a request is compatible with all locks that others hold.
func (g *ledger) fits(item int, r request) bool {
	for other := 1; other <= len(g.jobs); other++ {
		if lock := g.of(other).locks[item]; other != r.txn && lock > 0 && !fit(lock, r.lock) {
			return false
		}
	}
	return true
}

// do does what a lock was granted for.
func (g *ledger) do(item int, r request) int {
	j := g.of(r.txn)
	j.locks[item] = max(j.locks[item], r.lock)
	if r.lock == shared {
		g.events = append(g.events, api.Event{Txn: r.txn, What: api.EventRead, Item: item, Value: g.now[item]})
		return g.now[item]
	}
	if _, wrote := j.undo[item]; !wrote {
		j.undo[item] = g.now[item]
	}
	g.now[item] = r.value
	g.events = append(g.events, api.Event{Txn: r.txn, What: api.EventWrite, Item: item, Value: r.value})
	return 0
}

// leave makes a transaction committed or dead.
func (g *ledger) leave(txn, state int) {
	j := g.of(txn)
	touched := slices.Collect(maps.Keys(j.locks))
	if state == api.TxnDead {
		for item, value := range j.undo {
			g.now[item] = value
		}
	}
	for item, line := range g.lines {
		if at := slices.IndexFunc(line, func(r request) bool { return r.txn == txn }); at >= 0 {
			g.lines[item] = slices.Delete(line, at, at+1)
			touched = append(touched, item)
		}
	}
	g.events = append(g.events, api.Event{Txn: txn, What: map[int]int{api.TxnDone: api.EventCommit, api.TxnDead: api.EventDeath}[state]})
	*j = job{state: state}
	slices.Sort(touched)
	for _, item := range touched {
		for len(g.lines[item]) > 0 && g.fits(item, g.lines[item][0]) {
			r := g.lines[item][0]
			g.lines[item] = g.lines[item][1:]
			g.of(r.txn).state, g.of(r.txn).had = api.TxnActive, true
			g.of(r.txn).got = g.do(item, r)
		}
	}
}

// waits are those for whom a transaction waits.
func (g *ledger) waits(txn int) []int {
	var l []int
	for item, line := range g.lines {
		at := slices.IndexFunc(line, func(r request) bool { return r.txn == txn })
		if at < 0 {
			continue
		}
		for other := 1; other <= len(g.jobs); other++ {
			holds := g.of(other).locks[item] > 0 && !fit(g.of(other).locks[item], line[at].lock)
			before := slices.ContainsFunc(line[:at], func(r request) bool { return r.txn == other && !fit(r.lock, line[at].lock) })
			if other != txn && (holds || before) {
				l = append(l, other)
			}
		}
	}
	return l
}

// leads tells, of each transaction, whether one waits for it, directly or through others.
func (g *ledger) leads(txn int) map[int]bool {
	set := map[int]bool{}
	more := []int{txn}
	for len(more) > 0 {
		next := g.waits(more[0])
		more = more[1:]
		for _, other := range next {
			if !set[other] {
				set[other] = true
				more = append(more, other)
			}
		}
	}
	return set
}

// ring is all that are on a ring through a transaction.
func (g *ledger) ring(txn int) []int {
	var l []int
	for other := range g.leads(txn) {
		if g.leads(other)[txn] {
			l = append(l, other)
		}
	}
	return l
}

func (g *ledger) holders(item int) ([]int, bool) {
	var l []int
	x := false
	for txn := 1; txn <= len(g.jobs); txn++ {
		if lock := g.of(txn).locks[item]; lock > 0 {
			l = append(l, txn)
			x = x || lock == exclusive
		}
	}
	return l, x
}

func (g *ledger) queue(item int) []int {
	var l []int
	for _, r := range g.lines[item] {
		l = append(l, r.txn)
	}
	return l
}

// values are those that there were if all died who are active or waiting.
func (g *ledger) values() []int {
	l := slices.Clone(g.now)
	for _, j := range g.jobs {
		for item, value := range j.undo {
			l[item] = value
		}
	}
	return l
}

// wantSame fails unless a desk shows all that a ledger does.
func wantSame(t *testing.T, d *desk.Desk, g *ledger) {
	t.Helper()
	for txn := 1; txn <= len(g.jobs); txn++ {
		j := g.of(txn)
		wantNumber(t, j.state)(d.State(txn))
		wantWaits(t, d, txn, g.waits(txn)...)
		if j.state == api.TxnActive && j.had {
			wantGot(t, d, txn, j.got)
		} else {
			wantNotGot(t, d, txn, api.OK)
		}
	}
	wantRefused(t, api.ErrNone)(d.State(len(g.jobs) + 1))
	for item := range g.now {
		l, x := g.holders(item)
		wantHolders(t, d, item, x, l...)
		wantQueue(t, d, item, g.queue(item)...)
	}
	wantValues(t, d, g.values()...)
	if got := d.Events(); !slices.Equal(got, g.events) {
		t.Fatalf("events %v; want %v", got, g.events)
	}
}
