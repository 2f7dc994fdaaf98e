package house

import (
	"strings"

	"kimberlite/api"
)

// command is what the words of a line ask for.
type command interface {
	// carry carries the command out in a house, and returns its reply. It changes nothing
	// if it is refused; then only the error counts.
	carry(h *House) (string, api.Errno)
}

// maker makes a command of its parameters. If it cannot, it returns the reply that says
// so.
type maker func(words []string) (c command, bad string)

// commandOf makes the command of a line's words.
func commandOf(words []string) (c command, bad string) {
	name, parameters := words[0], words[1:]
	if change, ok := changes()[name]; ok {
		does, bad := change(parameters)
		if bad != "" {
			return nil, bad
		}
		return logged{does, words}, ""
	}
	if look, ok := looks()[name]; ok {
		return look(parameters)
	}
	return nil, badLine
}

// changes are the commands that change the house.
func changes() map[string]maker {
	return map[string]maker{
		"stone":  asking(2, func(p *params) command { return takeStone{p.number(), p.grade()} }),
		"parcel": askingMore(1, 1, 12, func(p *params) command { return makeParcel{p.name(), rest(p, p.number)} }),
		"sieve":  asking(3, func(p *params) command { return sieve{p.name(), p.name(), p.set()} }),
		"class":  askingMore(2, 1, 6, func(p *params) command { return class{p.name(), p.name(), rest(p, p.grade)} }),
		"join":   asking(2, func(p *params) command { return join{p.name(), p.name()} }),

		"day":    asking(1, func(p *params) command { return nextDay{p.number()} }),
		"grant":  asking(5, func(p *params) command { return grant{p.terms()} }),
		"pass":   asking(7, func(p *params) command { return pass{p.key(), p.terms()} }),
		"revoke": asking(2, func(p *params) command { return revoke{p.key()} }),
		"open":   asking(5, func(p *params) command { return openVault{p.number(), p.key(), p.key()} }),
		"lock":   asking(1, func(p *params) command { return lockVault{p.number()} }),
		"store":  asking(2, func(p *params) command { return store{p.name(), p.number()} }),
		"fetch":  asking(1, func(p *params) command { return fetch{p.name()} }),

		"tender": askingMore(0, 1, 6, func(p *params) command { return openTender{rest(p, p.name)} }),
		"seal":   asking(2, func(p *params) command { return seal{p.number(), p.hash()} }),
		"shut":   asking(0, func(*params) command { return shutTender{} }),
		"show":   askingMore(2, 2, 4, func(p *params) command { return show{p.number(), p.hash(), rest(p, p.bid)} }),
		"close":  asking(0, func(*params) command { return closeTender{} }),
		"move":   askingMore(0, 3, 6, func(p *params) command { return move{rest(p, p.transfer)} }),
	}
}

// looks are the commands that only look.
func looks() map[string]maker {
	return map[string]maker{
		"parcels": asking(0, func(*params) command { return listParcels{} }),
		"stones":  asking(1, func(p *params) command { return listStones{p.name()} }),
		"pairs":   asking(3, func(p *params) command { return listPairs{p.name(), p.number(), p.grade()} }),
		"width":   asking(1, func(p *params) command { return listApart{p.name()} }),
		"could":   asking(1, func(p *params) command { return could{p.number()} }),
		"balance": asking(1, func(p *params) command { return balance{p.number()} }),
		"prove":   asking(1, func(p *params) command { return prove{p.number()} }),
		"audit":   asking(0, func(*params) command { return audit{} }),
		"if":      makeWhatIf,
	}
}

// asking returns a maker of a command with n parameters, as which read reads them.
func asking(n int, read func(p *params) command) maker {
	return func(words []string) (command, string) {
		if len(words) != n {
			return nil, badLine
		}
		return reading(words, read)
	}
}

// askingMore returns a maker of a command with n parameters, and then 1 to most times so
// many as each says.
func askingMore(n, each, most int, read func(p *params) command) maker {
	return func(words []string) (command, string) {
		more := len(words) - n
		if more < each || more > most*each || more%each != 0 {
			return nil, badLine
		}
		return reading(words, read)
	}
}

// reading makes the command as which read reads its parameters.
func reading(words []string, read func(p *params) command) (command, string) {
	p := &params{words: words}
	c := read(p)
	if p.bad > 0 {
		return nil, badWord(p.bad)
	}
	return c, ""
}

// logged is a command that changes the house, and so is added to the log.
type logged struct {
	does  command
	words []string
}

func (c logged) carry(h *House) (string, api.Errno) {
	if h.log.Len() == api.MaxEntries {
		// That the log is full comes after all other errors, which a copy shows.
		if _, e := c.does.carry(h.Copy()); e != api.OK {
			return "", e
		}
		return "", api.ErrFull
	}
	reply, e := c.does.carry(h)
	if e != api.OK {
		return "", e
	}
	_, e = h.log.Add([]byte(strings.Join(c.words, blank)))
	return reply, e
}

// whatIf is a command that is carried out in a copy of the house.
type whatIf struct{ words []string }

func makeWhatIf(words []string) (command, string) {
	if len(words) == 0 {
		return nil, badLine
	}
	return whatIf{words}, ""
}

func (c whatIf) carry(h *House) (string, api.Errno) { return h.Copy().obey(c.words), api.OK }
