package grade

import (
	"slices"

	"kimberlite/api"
)

// Width returns the greatest number of stones that are apart, and the indexes
// of the last such stones.
func Width(l []api.Grade) (int, []int, api.Errno) {
	if e := check(l, api.MaxStones); e != api.OK {
		return 0, nil, e
	}
	// The stones that are reached as takers are those that come after the stones
	// apart, which are the last ones before them, one of each chain. The search
	// reaches no more than it must, so no such stones come later.
	t := linkChains(l)
	var apart []int
	for i := range l {
		if t.givers[i] != unreached && t.takers[i] == unreached {
			apart = append(apart, i)
		}
	}
	return len(apart), apart, api.OK
}

// Chains returns the number of each stone's chain, and how many chains there
// are: as few as possible.
func Chains(l []api.Grade) ([]int, int, api.Errno) {
	if e := check(l, api.MaxStones); e != api.OK {
		return nil, 0, e
	}
	t := linkChains(l)
	chains, n := make([]int, len(l)), 0
	for i := range l {
		if t.take[i] == 0 {
			continue // another stone of its chain comes before it
		}
		for at := i; at >= 0; at = slices.Index(t.moved[at], 1) {
			chains[at] = n
		}
		n++
	}
	return chains, n, api.OK
}

// linkChains links as many stones as possible to a next one of their chain: each
// stone gives one link to a stone that it comes before, and takes one. Each link
// spares a chain.
func linkChains(l []api.Grade) *trade {
	ones := func() []int { return slices.Repeat([]int{1}, len(l)) }
	return newTrade(ones(), ones(), func(i, j int) bool {
		if l[i] == l[j] {
			return i < j
		}
		return Below(l[i], l[j])
	})
}
