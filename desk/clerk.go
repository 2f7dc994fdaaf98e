package desk

import (
	"kimberlite/api"
)

// begin is what a clerk asks for who needs a transaction. All else that they ask for is
// told by the event that comes of it.
const begin = 0

// clerk is somebody who works at a desk: a goroutine that asks for a step by a channel,
// and waits for the answer.
type clerk struct {
	script  []api.Op
	asks    chan api.Event
	answers chan answer
	// reads is what was read in the last transaction.
	reads []int
}

type answer struct {
	value int
	e     api.Errno
}

// work does the script in one transaction after the other, until one does not die.
func (c *clerk) work() {
	for c.try() == api.ErrDead {
	}
}

// try does the script in one transaction, and returns the error that ended it early.
func (c *clerk) try() api.Errno {
	c.reads = nil
	if _, e := c.ask(begin, 0, 0); e != api.OK {
		return e
	}
	for _, op := range c.script {
		if e := c.do(op); e != api.OK {
			return e
		}
	}
	_, e := c.ask(api.EventCommit, 0, 0)
	return e
}

// do does a step of the script.
func (c *clerk) do(op api.Op) api.Errno {
	switch op.What {
	case api.OpRead:
		_, e := c.read(op.Item)
		return e
	case api.OpWrite:
		return c.write(op.Item, op.Value)
	}
	value, e := c.read(op.Item)
	if e != api.OK {
		return e
	}
	return c.write(op.Item, value+op.Value)
}

func (c *clerk) read(item int) (int, api.Errno) {
	value, e := c.ask(api.EventRead, item, 0)
	if e == api.OK {
		c.reads = append(c.reads, value)
	}
	return value, e
}

func (c *clerk) write(item, value int) api.Errno {
	_, e := c.ask(api.EventWrite, item, value)
	return e
}

// ask asks for something, and waits for the answer.
func (c *clerk) ask(what, item, value int) (int, api.Errno) {
	c.asks <- api.Event{What: what, Item: item, Value: value}
	a := <-c.answers
	return a.value, a.e
}
