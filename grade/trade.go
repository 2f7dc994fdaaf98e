package grade

import "slices"

const (
	// unreached marks a giver or a taker that a search does not reach.
	unreached = -1
	// atStart marks a giver from which a search starts.
	atStart = -2
)

// trade moves as much as possible from givers to takers, some of which are
// linked. While anything can be moved, a search finds a way from a giver that
// has something left to a taker that has room; the way may turn back what was
// moved before. The last search finds none, and what it reaches shows why.
type trade struct {
	give, take []int   // what is left
	links      [][]int // the takers of each giver
	moved      [][]int // by giver and taker

	givers []int // the taker by which the last search reached each giver
	takers []int // the giver by which it reached each taker
}

// newTrade makes a trade of so much to give and to take, as many of each, and
// carries it out. It takes the two lists over.
func newTrade(give, take []int, linked func(i, j int) bool) *trade {
	t := &trade{give: give, take: take}
	for i := range give {
		var links []int
		for j := range take {
			if linked(i, j) {
				links = append(links, j)
			}
		}
		t.links = append(t.links, links)
		t.moved = append(t.moved, make([]int, len(take)))
	}
	for j := t.search(); j != unreached; j = t.search() {
		amount := t.move(j, t.take[j])
		t.take[j] -= amount
	}
	return t
}

// search returns the nearest taker that has room and can be reached. That it is
// the nearest keeps the number of searches small, however great the amounts.
func (t *trade) search() int {
	t.givers = slices.Repeat([]int{unreached}, len(t.give))
	t.takers = slices.Repeat([]int{unreached}, len(t.take))
	var queue []int
	for i, left := range t.give {
		if left > 0 {
			t.givers[i] = atStart
			queue = append(queue, i)
		}
	}
	for len(queue) > 0 {
		i := queue[0]
		queue = queue[1:]
		for _, j := range t.links[i] {
			if t.takers[j] != unreached {
				continue
			}
			t.takers[j] = i
			if t.take[j] > 0 {
				return j
			}
			reached := t.reachGivers(j)
			queue = append(queue, reached...)
		}
	}
	return unreached
}

// reachGivers returns the givers that are reached by the taker j: those that
// gave it something, and could give that to another one.
func (t *trade) reachGivers(j int) []int {
	var reached []int
	for i, row := range t.moved {
		if row[j] > 0 && t.givers[i] == unreached {
			t.givers[i] = j
			reached = append(reached, i)
		}
	}
	return reached
}

// move moves up to so much to the taker j, on the way on which the last search
// reached it, and returns how much.
func (t *trade) move(j, amount int) int {
	i := t.takers[j]
	if from := t.givers[i]; from == atStart {
		amount = min(amount, t.give[i])
		t.give[i] -= amount
	} else {
		amount = t.move(from, min(amount, t.moved[i][from]))
		t.moved[i][from] -= amount
	}
	t.moved[i][j] += amount
	return amount
}
