package house

import (
	"maps"
	"slices"
	"strconv"

	"kimberlite/api"
	"kimberlite/grade"
	"kimberlite/pair"
)

// listParcels tells the names of all parcels.
type listParcels struct{}

func (listParcels) carry(h *House) (string, api.Errno) {
	return listed(slices.Sorted(maps.Keys(h.parcels))), api.OK
}

// listStones tells where a parcel is, and its stones.
type listStones struct{ name string }

func (c listStones) carry(h *House) (string, api.Errno) {
	p, e := h.find(c.name)
	return listed([]string{p.text()}, h.inside(c.name)...), e
}

// listPairs tells as many pairs of a parcel's stones as can be made.
type listPairs struct {
	name  string
	most  int
	apart api.Grade
}

func (c listPairs) carry(h *House) (string, api.Errno) {
	numbers, stones, e := h.lookInto(c.name)
	if e != api.OK {
		return "", e
	}
	edges, e := pair.Edges(stones, c.most, c.apart)
	if e != api.OK {
		return "", e
	}
	mates, count, e := pair.Match(len(stones), edges)
	words := []string{strconv.Itoa(count)}
	for i, mate := range mates {
		// A single stone has a mate behind all others, and each pair is told once.
		if i < mate && mate < len(numbers) {
			words = append(words, strconv.Itoa(numbers[i])+":"+strconv.Itoa(numbers[mate]))
		}
	}
	return listed(words), e
}

// listApart tells as many of a parcel's stones as can be apart.
type listApart struct{ name string }

func (c listApart) carry(h *House) (string, api.Errno) {
	numbers, stones, e := h.lookInto(c.name)
	if e != api.OK {
		return "", e
	}
	var grades []api.Grade
	for _, s := range stones {
		grades = append(grades, s.Grade)
	}
	width, apart, e := grade.Width(grades)
	for i, at := range apart {
		apart[i] = numbers[at]
	}
	return listed([]string{strconv.Itoa(width)}, apart...), e
}

// lookInto returns the numbers of a parcel's stones, and the stones.
func (h *House) lookInto(parcel string) ([]int, []api.Stone, api.Errno) {
	if _, e := h.find(parcel); e != api.OK {
		return nil, nil, e
	}
	numbers := h.inside(parcel)
	var stones []api.Stone
	for _, n := range numbers {
		stones = append(stones, h.of(n).Stone)
	}
	return numbers, stones, api.OK
}

// could tells which vaults persons could open.
type could struct{ persons int }

func (c could) carry(h *House) (string, api.Errno) {
	vaults, e := h.custody.Could(c.persons)
	return strconv.Itoa(vaults), e
}

// balance tells the value of an account.
type balance struct{ account int }

func (c balance) carry(h *House) (string, api.Errno) {
	if e := h.needAccount(c.account); e != api.OK {
		return "", e
	}
	return strconv.Itoa(h.accounts[c.account]), api.OK
}

// prove proves that an entry is in the log.
type prove struct{ entry int }

func (c prove) carry(h *House) (string, api.Errno) {
	steps, e := h.log.Include(c.entry, h.log.Len())
	words := []string{hashText(h.log.Root())}
	for _, s := range steps {
		side := "R"
		if s.Left {
			side = "L"
		}
		words = append(words, side+hashText(s.Hash))
	}
	return listed(words), e
}

func hashText(hash uint64) string { return strconv.FormatUint(hash, 10) }

// audit tells what an audit finds.
type audit struct{}

func (audit) carry(h *House) (string, api.Errno) {
	a := h.Audit()
	word := "bad"
	if a.Good {
		word = "good"
	}
	numbers := []int{a.Commands, a.Stones, a.Loose, a.Parcels, a.Sold, a.Money}
	return listed([]string{word}, numbers...) + blank + hashText(a.Root), api.OK
}
