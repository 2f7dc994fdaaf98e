package replica_test

import (
	"slices"
	"sort"

	"kimberlite/api"
)

// What the chapter says of a state and of Merge, word by word.

// isRight: what a right state is.
func isRight(s api.State) bool {
	if len(s.Seen) != 8 {
		return false
	}
	for _, n := range s.Seen {
		if n < 0 || n > 1<<30 {
			return false
		}
	}
	return tagsAreRight(s) && notesAreRight(s.Notes) && stocksAreRight(s)
}

func tagsAreRight(s api.State) bool {
	if len(s.Tags) > 128 {
		return false
	}
	for i, x := range s.Tags {
		if !isStone(x.Stone) || !isName(x.Name) || !isOffice(x.Dot.Office) || x.Dot.Count < 1 || x.Dot.Count > s.Seen[x.Dot.Office] {
			return false
		}
		for _, y := range s.Tags[:i] {
			if !tagBefore(y, x) || x.Dot == y.Dot {
				return false
			}
		}
	}
	return true
}

func tagBefore(x, y api.Tag) bool {
	if x.Stone != y.Stone {
		return x.Stone < y.Stone
	}
	if x.Name != y.Name {
		return x.Name < y.Name
	}
	if x.Dot.Office != y.Dot.Office {
		return x.Dot.Office < y.Dot.Office
	}
	return x.Dot.Count < y.Dot.Count
}

func notesAreRight(l []api.Note) bool {
	for i, x := range l {
		if !isStone(x.Stone) || len(x.Text) > 32 || !isAmount(x.Time) || !isOffice(x.Office) || i > 0 && l[i-1].Stone >= x.Stone {
			return false
		}
	}
	return true
}

func stocksAreRight(s api.State) bool {
	for i, x := range s.Rights {
		if !isStock(x.Stock) || !isOffice(x.From) || !isOffice(x.To) || !isAmount(x.Amount) {
			return false
		}
		if y := s.Rights[max(i, 1)-1]; i > 0 && y.Stock*64+y.From*8+y.To >= x.Stock*64+x.From*8+x.To {
			return false
		}
	}
	for i, x := range s.Used {
		if !isStock(x.Stock) || !isOffice(x.Office) || !isAmount(x.Amount) {
			return false
		}
		if y := s.Used[max(i, 1)-1]; i > 0 && y.Stock*8+y.Office >= x.Stock*8+x.Office {
			return false
		}
	}
	for stock := range 8 {
		for office := range 8 {
			if freeOf(s, stock, office) < 0 {
				return false
			}
		}
	}
	return true
}

// rightOf is what one office gave another one of a stock.
func rightOf(s api.State, stock, from, to int) int {
	for _, x := range s.Rights {
		if x.Stock == stock && x.From == from && x.To == to {
			return x.Amount
		}
	}
	return 0
}

// usedOf is what an office took of a stock.
func usedOf(s api.State, stock, office int) int {
	for _, x := range s.Used {
		if x.Stock == stock && x.Office == office {
			return x.Amount
		}
	}
	return 0
}

// freeOf is what was given to an office, less what it gave to others and used.
func freeOf(s api.State, stock, office int) int {
	n := rightOf(s, stock, office, office) - usedOf(s, stock, office)
	for other := range 8 {
		if other != office {
			n += rightOf(s, stock, other, office) - rightOf(s, stock, office, other)
		}
	}
	return n
}

// leftOf is what was made in all, less what was used in all.
func leftOf(s api.State, stock int) int {
	made, gone := 0, 0
	for office := range 8 {
		made += rightOf(s, stock, office, office)
		gone += usedOf(s, stock, office)
	}
	return made - gone
}

// noteOf is the note of a stone; its Time is 0 if there is none.
func noteOf(s api.State, stone int) api.Note {
	for _, n := range s.Notes {
		if n.Stone == stone {
			return n
		}
	}
	return api.Note{}
}

// namesOf are the names of a stone's tags.
func namesOf(s api.State, stone int) []string {
	var l []string
	for _, x := range s.Tags {
		if x.Stone == stone && !slices.Contains(l, x.Name) {
			l = append(l, x.Name)
		}
	}
	sort.Strings(l)
	return l
}

// merge: what Merge gives.
func merge(a, b api.State) (api.State, api.Errno) {
	if !isRight(a) || !isRight(b) {
		return api.State{}, api.ErrArg
	}
	for _, x := range a.Tags {
		for _, y := range b.Tags {
			if x.Dot == y.Dot && (x.Stone != y.Stone || x.Name != y.Name) {
				return api.State{}, api.ErrArg
			}
		}
	}
	m := api.State{Tags: mergeTags(a, b)}
	for office := range 8 {
		m.Seen = append(m.Seen, max(a.Seen[office], b.Seen[office]))
	}
	for stone := range 64 {
		if n := later(noteOf(a, stone), noteOf(b, stone)); n.Time > 0 {
			m.Notes = append(m.Notes, n)
		}
	}
	mergeStocks(&m, a, b)
	if len(m.Tags) > 128 {
		return api.State{}, api.ErrFull
	}
	if !isRight(m) {
		return api.State{}, api.ErrState
	}
	return m, api.OK
}

func mergeTags(a, b api.State) []api.Tag {
	var l []api.Tag
	for _, x := range a.Tags {
		if slices.Contains(b.Tags, x) || x.Dot.Count > b.Seen[x.Dot.Office] {
			l = append(l, x)
		}
	}
	for _, x := range b.Tags {
		if !slices.Contains(a.Tags, x) && x.Dot.Count > a.Seen[x.Dot.Office] {
			l = append(l, x)
		}
	}
	sort.Slice(l, func(i, j int) bool { return tagBefore(l[i], l[j]) })
	return l
}

// later is that note of two which counts.
func later(x, y api.Note) api.Note {
	switch {
	case x.Time != y.Time:
		if x.Time > y.Time {
			return x
		}
	case x.Office != y.Office:
		if x.Office > y.Office {
			return x
		}
	case x.Text > y.Text:
		return x
	}
	return y
}

func mergeStocks(m *api.State, a, b api.State) {
	for stock := range 8 {
		for office := range 8 {
			for to := range 8 {
				if n := max(rightOf(a, stock, office, to), rightOf(b, stock, office, to)); n > 0 {
					m.Rights = append(m.Rights, right(stock, office, to, n))
				}
			}
			if n := max(usedOf(a, stock, office), usedOf(b, stock, office)); n > 0 {
				m.Used = append(m.Used, used(stock, office, n))
			}
		}
	}
}

// someState is any right state in which little is known of few things. What a dot put
// on is mostly the same in all of them.
func someState(d *dice) api.State {
	for {
		s := draft(d)
		if isRight(s) {
			return s
		}
	}
}

func draft(d *dice) api.State {
	s := api.State{Seen: seen(d.next(4), d.next(4), d.next(3))}
	for office := range 3 {
		for i := range s.Seen[office] {
			stone, name := (office+i)%2, []string{"a", "b", "a0"}[i]
			if d.next(40) == 0 {
				stone, name = d.next(2), d.text("a", "b")
			}
			if d.next(2) == 0 {
				s.Tags = append(s.Tags, tag(stone, name, office, i+1))
			}
		}
	}
	sort.Slice(s.Tags, func(i, j int) bool { return tagBefore(s.Tags[i], s.Tags[j]) })
	for stone := range 3 {
		if d.next(2) == 0 {
			s.Notes = append(s.Notes, note(stone, d.text("", "a", "ab", "b", "\xff", "é"), 1+d.next(2), d.next(2)))
		}
	}
	for stock := range 2 {
		for from := range 3 {
			for to := range 3 {
				if from == to && d.next(4) > 0 || from != to && d.next(5) == 0 {
					s.Rights = append(s.Rights, right(stock, from, to, 1+d.next(3)))
				}
			}
			if d.next(4) == 0 {
				s.Used = append(s.Used, used(stock, from, 1+d.next(2)))
			}
		}
	}
	return s
}
