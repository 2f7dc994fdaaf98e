package custody

import "kimberlite/api"

// Could returns the set of the vaults that a group of persons could open together
// on the current day, by what they hold and can pass on to one another.
func (b *Book) Could(persons int) (vaults int, e api.Errno) {
	defer func() { e = ending(recover()) }()
	b.needMade()
	need(0 <= persons && persons <= everybody, api.ErrArg)
	keys := b.keys(persons)
	for i, one := range keys {
		for _, two := range keys[:i] {
			if meet(one, two, persons) {
				vaults |= one.Vaults & two.Vaults
			}
		}
	}
	return vaults, api.OK
}

// keys returns the grants with which one of these persons can open something.
func (b *Book) keys(persons int) []*api.Grant {
	var keys []*api.Grant
	for i := range b.grants {
		g := &b.grants[i]
		if persons>>g.Holder&1 == 1 && b.stands(g) && g.Rights&api.RightOpen != 0 && !b.isSpent(g) {
			keys = append(keys, g)
		}
	}
	return keys
}

// meet reports whether two keys of a group of persons can come to be two persons'
// keys of different roots. Two of one person can if that person can pass one of them
// on to another person of the group.
func meet(one, two *api.Grant, persons int) bool {
	if one.Root == two.Root {
		return false
	}
	passable := (one.Rights|two.Rights)&api.RightPass != 0
	alone := persons == 1<<one.Holder
	return one.Holder != two.Holder || passable && !alone
}
