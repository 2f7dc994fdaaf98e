package desk

import (
	"slices"
	"sync"

	"kimberlite/api"
)

// maxTurns is how many turns may be given.
const maxTurns = 512

// Play lets clerks work at a desk at the same time, and returns what that comes to.
func Play(values []int, scripts [][]api.Op, turns []int) (api.Outcome, api.Errno) {
	d, e := New(values)
	if e != api.OK {
		return api.Outcome{}, e
	}
	if e := d.checkPlay(scripts, turns); e != api.OK {
		return api.Outcome{}, e
	}
	p := &play{desk: d}
	var working sync.WaitGroup
	for _, script := range scripts {
		c := &clerk{script: script, asks: make(chan api.Event), answers: make(chan answer)}
		p.seats = append(p.seats, seat{clerk: c})
		working.Add(1)
		go func() {
			defer working.Done()
			c.work()
		}()
	}
	e = p.run(turns)
	p.dismiss(e)
	working.Wait()
	if e != api.OK {
		return api.Outcome{}, e
	}
	return p.outcome(), api.OK
}

// checkPlay returns the error of what clerks are to do, and of their turns.
func (d *Desk) checkPlay(scripts [][]api.Op, turns []int) api.Errno {
	isLong := func(script []api.Op) bool { return len(script) > api.MaxSteps }
	if len(scripts) > api.MaxClerks || slices.ContainsFunc(scripts, isLong) || len(turns) > maxTurns {
		return api.ErrLimit
	}
	isWrong := func(op api.Op) bool { return !d.isOp(op) }
	hasWrong := func(script []api.Op) bool { return slices.ContainsFunc(script, isWrong) }
	isNobody := func(c int) bool { return c < 0 || c >= len(scripts) }
	if len(scripts) == 0 || slices.ContainsFunc(scripts, hasWrong) || slices.ContainsFunc(turns, isNobody) {
		return api.ErrArg
	}
	return api.OK
}

func (d *Desk) isOp(op api.Op) bool {
	switch op.What {
	case api.OpRead:
		return d.isItem(op.Item)
	case api.OpWrite, api.OpAdd:
		return d.isItem(op.Item) && isValue(op.Value)
	}
	return false
}

// play is clerks who work at a desk in turns.
type play struct {
	desk  *Desk
	seats []seat
	order []int // the clerks who have committed
}

// seat is where a clerk's asks come in.
type seat struct {
	clerk *clerk
	txn   int // the last one that the clerk began
	// owed says whether the clerk asked for something, and waits for the answer.
	owed bool
}

// run gives the clerks their turns, until all have committed.
func (p *play) run(turns []int) api.Errno {
	for t := 0; len(p.order) < len(p.seats); t++ {
		c := t % len(p.seats)
		if t < len(turns) {
			c = turns[t]
		}
		if e := p.turn(c); e != api.OK {
			return e
		}
	}
	return api.OK
}

// turn does the next that a clerk asks for, unless they have committed, or still wait.
// It returns an error only if that ends the play.
func (p *play) turn(c int) api.Errno {
	s := &p.seats[c]
	if slices.Contains(p.order, c) || s.owed && !s.settle(p.desk) {
		return api.OK
	}
	asked := s.hear()
	value, e := s.do(p.desk, asked)
	switch e {
	case api.OK, api.ErrDead:
		s.tell(value, e)
	case api.ErrLock:
		// The answer comes when the clerk does not wait any more.
		return api.OK
	default:
		return e
	}
	if asked.What == api.EventCommit {
		p.order = append(p.order, c)
	}
	return api.OK
}

// settle answers an ask that had to wait, unless it still waits.
func (s *seat) settle(d *Desk) bool {
	switch state, _ := d.State(s.txn); state {
	case api.TxnWaiting:
		return false
	case api.TxnDead:
		s.tell(0, api.ErrDead)
	default:
		value, _, _ := d.Got(s.txn)
		s.tell(value, api.OK)
	}
	return true
}

// hear takes what the clerk asks for.
func (s *seat) hear() api.Event {
	s.owed = true
	return <-s.clerk.asks
}

// tell answers the clerk.
func (s *seat) tell(value int, e api.Errno) {
	s.owed = false
	s.clerk.answers <- answer{value, e}
}

// do does at the desk what the clerk asked for.
func (s *seat) do(d *Desk, asked api.Event) (int, api.Errno) {
	switch asked.What {
	case begin:
		txn, e := d.Begin()
		s.txn = txn
		return 0, e
	case api.EventRead:
		return d.Read(s.txn, asked.Item)
	case api.EventWrite:
		// All values of the scripts are within the limits, so this one is a sum.
		if !isValue(asked.Value) {
			return 0, api.ErrRange
		}
		return 0, d.Write(s.txn, asked.Item, asked.Value)
	}
	return 0, d.Commit(s.txn)
}

// dismiss ends the work of all who have not committed, with the error that ended the
// play.
func (p *play) dismiss(e api.Errno) {
	for c := range p.seats {
		if slices.Contains(p.order, c) {
			continue
		}
		s := &p.seats[c]
		if !s.owed {
			s.hear()
		}
		s.tell(0, e)
	}
}

// outcome is what the play came to, when all have committed and nobody works.
func (p *play) outcome() api.Outcome {
	o := api.Outcome{Values: p.desk.Values(), Order: p.order}
	for _, happened := range p.desk.events {
		if happened.What == api.EventDeath {
			o.Deaths++
		}
	}
	for _, s := range p.seats {
		o.Reads = append(o.Reads, s.clerk.reads)
	}
	return o
}
