package house

import (
	"cmp"

	"kimberlite/api"
	"kimberlite/desk"
)

const (
	// houseAccount is the house's own; the other accounts have the numbers of the buyers.
	houseAccount = 0

	maxCents = 1 << 30
)

// transfer is cents that are moved from one account to another one.
type transfer struct{ from, to, cents int }

func (p *params) transfer() transfer { return transfer{p.number(), p.number(), p.number()} }

// ops are the steps of a clerk who moves the cents.
func (t transfer) ops() []api.Op {
	return []api.Op{
		{What: api.OpAdd, Item: t.from, Value: -t.cents},
		{What: api.OpAdd, Item: t.to, Value: t.cents},
	}
}

// pay lets clerks work on the accounts.
func (h *House) pay(scripts [][]api.Op) (api.Outcome, api.Errno) {
	o, e := desk.Play(h.accounts[:], scripts, nil)
	if e == api.OK {
		copy(h.accounts[:], o.Values)
	}
	return o, e
}

// needAccount returns the error of an account that there is not.
func (h *House) needAccount(account int) api.Errno {
	return errIf(account < 0 || account >= len(h.accounts), api.ErrArg)
}

// move moves money, a clerk for each transfer.
type move struct{ transfers []transfer }

func (c move) carry(h *House) (string, api.Errno) {
	var scripts [][]api.Op
	for _, t := range c.transfers {
		badCents := t.cents < 1 || t.cents > maxCents
		if e := cmp.Or(h.needAccount(t.from), h.needAccount(t.to), errIf(badCents, api.ErrArg)); e != api.OK {
			return "", e
		}
		scripts = append(scripts, t.ops())
	}
	o, e := h.pay(scripts)
	if e != api.OK {
		return "", e
	}
	return listed(nil, append(o.Order, o.Deaths)...), api.OK
}
