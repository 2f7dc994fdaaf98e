package house

import (
	"cmp"
	"strconv"

	"kimberlite/api"
)

// terms are what a grant gives, and to whom.
type terms struct{ holder, vaults, rights, until, uses int }

func (p *params) terms() terms {
	return terms{p.number(), p.number(), p.number(), p.number(), p.number()}
}

// key is a grant, and who makes use of it.
type key struct{ grant, by int }

func (p *params) key() key { return key{p.number(), p.number()} }

// nextDay sets the day.
type nextDay struct{ day int }

func (c nextDay) carry(h *House) (string, api.Errno) {
	before := h.custody.Day()
	if e := h.custody.Next(c.day); e != api.OK {
		return "", e
	}
	if c.day > before {
		clear(h.isOpen[:])
	}
	return done, api.OK
}

// grant makes a grant.
type grant struct{ terms }

func (c grant) carry(h *House) (string, api.Errno) {
	no, e := h.custody.Grant(c.holder, c.vaults, c.rights, c.until, c.uses)
	return "grant " + strconv.Itoa(no), e
}

// pass makes a grant beneath another one.
type pass struct {
	above key
	terms
}

func (c pass) carry(h *House) (string, api.Errno) {
	no, e := h.custody.Pass(c.above.grant, c.above.by, c.holder, c.vaults, c.rights, c.until, c.uses)
	return "grant " + strconv.Itoa(no), e
}

// revoke takes a grant back.
type revoke struct{ key }

func (c revoke) carry(h *House) (string, api.Errno) {
	count, e := h.custody.Revoke(c.grant, c.by)
	return strconv.Itoa(count), e
}

// openVault opens a vault by two keys.
type openVault struct {
	vault         int
	first, second key
}

func (c openVault) carry(h *House) (string, api.Errno) {
	// A vault that there is not is not open: that error is custody's.
	if h.opened(c.vault) {
		return "", api.ErrState
	}
	if e := h.custody.Open(c.vault, c.first.grant, c.first.by, c.second.grant, c.second.by); e != api.OK {
		return "", e
	}
	h.isOpen[c.vault] = true
	return done, api.OK
}

// lockVault locks a vault.
type lockVault struct{ vault int }

func (c lockVault) carry(h *House) (string, api.Errno) {
	if e := cmp.Or(needVault(c.vault), errIf(!h.opened(c.vault), api.ErrState)); e != api.OK {
		return "", e
	}
	h.isOpen[c.vault] = false
	return done, api.OK
}

// store puts a parcel into a vault.
type store struct {
	name  string
	vault int
}

func (c store) carry(h *House) (string, api.Errno) {
	isLocked := !h.opened(c.vault)
	if e := cmp.Or(h.needFree(c.name), needVault(c.vault), errIf(isLocked, api.ErrKey)); e != api.OK {
		return "", e
	}
	h.parcels[c.name] = place(c.vault)
	return done, api.OK
}

// fetch makes a parcel that is in a vault at hand.
type fetch struct{ name string }

func (c fetch) carry(h *House) (string, api.Errno) {
	p, e := h.find(c.name)
	isFixed := !p.inVault() || h.isLot(c.name)
	isLocked := !h.opened(int(p))
	if e := cmp.Or(e, errIf(isFixed, api.ErrState), errIf(isLocked, api.ErrKey)); e != api.OK {
		return "", e
	}
	h.parcels[c.name] = atHand
	return done, api.OK
}

// opened reports whether there is such a vault, and it is open.
func (h *House) opened(vault int) bool { return isVault(vault) && h.isOpen[vault] }

func needVault(vault int) api.Errno { return errIf(!isVault(vault), api.ErrArg) }

func isVault(vault int) bool { return 0 <= vault && vault <= api.MaxVault }
