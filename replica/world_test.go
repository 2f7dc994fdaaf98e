package replica_test

import (
	"maps"
	"slices"
	"sort"

	"kimberlite/api"
)

// A world is all that offices ever did, deed by deed. What an office knows is a set of
// deeds, from which its state is told anew: so nothing here depends on Merge.

// deed is something that an office did; what has no part in it is zero.
type deed struct {
	put  api.Tag
	off  []api.Dot // what it took off
	note api.Note
	gave api.Right
	took api.Used
}

type world struct{ deeds []deed }

// known is a set of deeds, by their numbers.
type known map[int]bool

// do adds a deed, which just those know who do it.
func (w *world) do(k known, x deed) {
	k[len(w.deeds)] = true
	w.deeds = append(w.deeds, x)
}

// of are the deeds that are known, in the order in which they were done.
func (w *world) of(k known) []deed {
	var l []deed
	for _, i := range slices.Sorted(maps.Keys(k)) {
		l = append(l, w.deeds[i])
	}
	return l
}

// state is what is known of these deeds.
func (w *world) state(k known) api.State {
	s := api.State{Seen: seen()}
	off := map[api.Dot]bool{}
	latest := map[int]api.Note{}
	gave := map[[3]int]int{}
	took := map[[2]int]int{}
	l := w.of(k)
	for _, x := range l {
		for _, dot := range x.off {
			off[dot] = true
		}
		if x.put.Name != "" {
			s.Seen[x.put.Dot.Office]++
		}
		if n := x.note; n.Time > latest[n.Stone].Time || n.Time == latest[n.Stone].Time && n.Office > latest[n.Stone].Office {
			latest[n.Stone] = n
		}
		gave[[3]int{x.gave.Stock, x.gave.From, x.gave.To}] += x.gave.Amount
		took[[2]int{x.took.Stock, x.took.Office}] += x.took.Amount
	}
	for _, x := range l {
		if x.put.Name != "" && !off[x.put.Dot] {
			s.Tags = append(s.Tags, x.put)
		}
	}
	sort.Slice(s.Tags, func(i, j int) bool { return tagBefore(s.Tags[i], s.Tags[j]) })
	for stone := range 64 {
		if latest[stone].Time > 0 {
			s.Notes = append(s.Notes, latest[stone])
		}
	}
	for place := range 8 * 8 * 8 {
		stock, from, to := place/64, place/8%8, place%8
		if n := gave[[3]int{stock, from, to}]; n > 0 {
			s.Rights = append(s.Rights, right(stock, from, to, n))
		}
	}
	for place := range 8 * 8 {
		if n := took[[2]int{place / 8, place % 8}]; n > 0 {
			s.Used = append(s.Used, used(place/8, place%8, n))
		}
	}
	return s
}

// office is what an office knows.
type office struct {
	w  *world
	no int
	k  known
}

func (o *office) state() api.State { return o.w.state(o.k) }

// tagsOf are the dots of a stone's tags of that name.
func (o *office) tagsOf(stone int, name string) []api.Dot {
	var l []api.Dot
	for _, x := range o.state().Tags {
		if x.Stone == stone && x.Name == name {
			l = append(l, x.Dot)
		}
	}
	return l
}

func (o *office) put(stone int, name string) api.Errno {
	if !isStone(stone) || !isName(name) {
		return api.ErrArg
	}
	s, off := o.state(), o.tagsOf(stone, name)
	if len(s.Tags)-len(off) >= maxTags {
		return api.ErrFull
	}
	o.w.do(o.k, deed{put: tag(stone, name, o.no, s.Seen[o.no]+1), off: off})
	return api.OK
}

func (o *office) drop(stone int, name string) (int, api.Errno) {
	if !isStone(stone) || !isName(name) {
		return 0, api.ErrArg
	}
	off := o.tagsOf(stone, name)
	o.w.do(o.k, deed{off: off})
	return len(off), api.OK
}

func (o *office) write(stone int, text string) api.Errno {
	if !isStone(stone) || len(text) > 32 {
		return api.ErrArg
	}
	latest := 0
	for _, x := range o.w.of(o.k) {
		latest = max(latest, x.note.Time)
	}
	o.w.do(o.k, deed{note: note(stone, text, latest+1, o.no)})
	return api.OK
}

func (o *office) give(stock, to, amount int) api.Errno {
	makes := to == o.no
	if !isStock(stock) || !isAmount(amount) || !isOffice(to) {
		return api.ErrArg
	}
	s := o.state()
	if !makes && amount > freeOf(s, stock, o.no) {
		return api.ErrFunds
	}
	if rightOf(s, stock, o.no, to)+amount > maxCount {
		return api.ErrRange
	}
	o.w.do(o.k, deed{gave: right(stock, o.no, to, amount)})
	return api.OK
}

func (o *office) take(stock, amount int) api.Errno {
	if !isStock(stock) || !isAmount(amount) {
		return api.ErrArg
	}
	s := o.state()
	if amount > freeOf(s, stock, o.no) {
		return api.ErrFunds
	}
	if usedOf(s, stock, o.no)+amount > maxCount {
		return api.ErrRange
	}
	o.w.do(o.k, deed{took: used(stock, o.no, amount)})
	return api.OK
}

// learn adds what others knew, unless that would be too many tags.
func (o *office) learn(k known) api.Errno {
	all := maps.Clone(o.k)
	maps.Copy(all, k)
	if len(o.w.state(all).Tags) > maxTags {
		return api.ErrFull
	}
	o.k = all
	return api.OK
}
