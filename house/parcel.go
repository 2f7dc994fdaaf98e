package house

import (
	"cmp"
	"slices"
	"strconv"

	"kimberlite/api"
	"kimberlite/grade"
	"kimberlite/span"
)

// place is where a parcel is: at hand, sold, or in the vault of that number.
type place int

const (
	atHand place = -1
	sold   place = -2
)

// text is the place as a word.
func (p place) text() string {
	switch p {
	case atHand:
		return "hand"
	case sold:
		return "sold"
	}
	return "vault" + strconv.Itoa(int(p))
}

// inVault reports whether the place is a vault.
func (p place) inVault() bool { return p >= 0 }

// errIf returns e if that applies.
func errIf(applies bool, e api.Errno) api.Errno {
	if applies {
		return e
	}
	return api.OK
}

// find returns where a parcel is.
func (h *House) find(parcel string) (place, api.Errno) {
	p, ok := h.parcels[parcel]
	return p, errIf(!ok, api.ErrNone)
}

// needFree returns the error of a parcel with which something is to be done for which it
// must be at hand, and not in the tender.
func (h *House) needFree(parcel string) api.Errno {
	p, e := h.find(parcel)
	return cmp.Or(e, errIf(p != atHand || h.isLot(parcel), api.ErrState))
}

// needNew returns the error of a parcel that is to be made.
func (h *House) needNew(parcel string) api.Errno {
	_, ok := h.parcels[parcel]
	return errIf(ok, api.ErrExists)
}

// needRoom returns the error of a house that is to have one parcel more.
func (h *House) needRoom() api.Errno {
	return errIf(len(h.parcels) == api.MaxParcels, api.ErrFull)
}

// inside returns the numbers of a parcel's stones, ascending.
func (h *House) inside(parcel string) []int {
	var numbers []int
	for i, s := range h.stones {
		if s.parcel == parcel {
			numbers = append(numbers, i+1)
		}
	}
	return numbers
}

// of returns the stone of a number.
func (h *House) of(number int) *stone { return &h.stones[number-1] }

// put puts stones into a parcel.
func (h *House) put(numbers []int, parcel string) {
	for _, n := range numbers {
		h.of(n).parcel = parcel
	}
}

// shift puts stones of one parcel into another one, and returns how many. A parcel that
// has no stones left is gone.
func (h *House) shift(numbers []int, from, to string) string {
	h.put(numbers, to)
	if len(h.inside(from)) == 0 {
		delete(h.parcels, from)
	}
	return strconv.Itoa(len(numbers))
}

// part makes a new parcel of those stones of another one that are wanted.
func (h *House) part(from, name string, wanted func(s api.Stone) bool) (string, api.Errno) {
	isLeft := func(n int) bool { return !wanted(h.of(n).Stone) }
	got := slices.DeleteFunc(h.inside(from), isLeft)
	if e := cmp.Or(h.needNew(name), errIf(len(got) == 0, api.ErrPlan), h.needRoom()); e != api.OK {
		return "", e
	}
	h.parcels[name] = atHand
	return h.shift(got, from, name), api.OK
}

// takeStone takes in a stone.
type takeStone struct {
	size  int
	grade api.Grade
}

func (c takeStone) carry(h *House) (string, api.Errno) {
	badSize := c.size < 1 || c.size > api.MaxSize
	_, badGrade := grade.In(nil, c.grade)
	isFull := len(h.stones) == api.MaxTaken
	if e := cmp.Or(errIf(badSize, api.ErrArg), badGrade, errIf(isFull, api.ErrFull)); e != api.OK {
		return "", e
	}
	h.stones = append(h.stones, stone{Stone: api.Stone{Size: c.size, Grade: c.grade}})
	return "stone " + strconv.Itoa(len(h.stones)), api.OK
}

// makeParcel makes a parcel of loose stones.
type makeParcel struct {
	name   string
	stones []int
}

func (c makeParcel) carry(h *House) (string, api.Errno) {
	if e := cmp.Or(h.needNew(c.name), h.needLoose(c.stones), h.needRoom()); e != api.OK {
		return "", e
	}
	h.parcels[c.name] = atHand
	h.put(c.stones, c.name)
	return done, api.OK
}

// needLoose returns the error of the first stone that cannot be put into a new parcel
// with those before it.
func (h *House) needLoose(numbers []int) api.Errno {
	for i, n := range numbers {
		if n < 1 || n > len(h.stones) {
			return api.ErrNone
		}
		if h.of(n).parcel != "" || slices.Contains(numbers[:i], n) {
			return api.ErrState
		}
	}
	return api.OK
}

// sieve parts a parcel by the sizes of its stones.
type sieve struct {
	from, name string
	sizes      []api.Span
}

func (c sieve) carry(h *House) (string, api.Errno) {
	if e := h.needFree(c.from); e != api.OK {
		return "", e
	}
	return h.part(c.from, c.name, func(s api.Stone) bool {
		passes, _ := span.Has(c.sizes, s.Size)
		return passes
	})
}

// class parts a parcel by the grades of its stones.
type class struct {
	from, name string
	grades     []api.Grade
}

func (c class) carry(h *House) (string, api.Errno) {
	least, badGrade := grade.Least(c.grades)
	if e := cmp.Or(h.needFree(c.from), badGrade); e != api.OK {
		return "", e
	}
	return h.part(c.from, c.name, func(s api.Stone) bool {
		in, _ := grade.In(least, s.Grade)
		return in
	})
}

// join puts all stones of a parcel into another one.
type join struct{ from, name string }

func (c join) carry(h *House) (string, api.Errno) {
	isSame := c.name == c.from
	if e := cmp.Or(h.needFree(c.from), errIf(isSame, api.ErrArg), h.needFree(c.name)); e != api.OK {
		return "", e
	}
	return h.shift(h.inside(c.from), c.from, c.name), api.OK
}
