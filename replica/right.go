package replica

import (
	"kimberlite/api"
)

const (
	offices = api.MaxOffice + 1
	stocks  = api.MaxStock + 1
	maxName = 8
)

// Right reports whether a state is right.
func Right(s api.State) bool {
	mayTag := func(t api.Tag) bool { return isTag(t, s.Seen) }
	return isSeen(s.Seen) &&
		len(s.Tags) <= api.MaxTags && areRight(tags(), s.Tags, mayTag) && !shareDot(s.Tags) &&
		areRight(notes(), s.Notes, isNote) &&
		areRight(rights(), s.Rights, isRight) && areRight(used(), s.Used, isUsed) && !isOverdrawn(s)
}

func isSeen(seen []int) bool {
	if len(seen) != offices {
		return false
	}
	for _, count := range seen {
		if !isWithin(count, 0, api.MaxCount) {
			return false
		}
	}
	return true
}

// isTag reports whether a tag may be, where so many events were seen of each office.
func isTag(t api.Tag, seen []int) bool {
	return isStone(t.Stone) && isName(t.Name) && isOffice(t.Dot.Office) && isWithin(t.Dot.Count, 1, seen[t.Dot.Office])
}

func isNote(n api.Note) bool {
	return isStone(n.Stone) && isText(n.Text) && isWithin(n.Time, 1, api.MaxCount) && isOffice(n.Office)
}

func isRight(x api.Right) bool {
	return isStock(x.Stock) && isOffice(x.From) && isOffice(x.To) && isAmount(x.Amount)
}

func isUsed(x api.Used) bool { return isStock(x.Stock) && isOffice(x.Office) && isAmount(x.Amount) }

// shareDot reports whether two of the tags have one dot.
func shareDot(l []api.Tag) bool {
	seen := map[api.Dot]bool{}
	for _, t := range l {
		if seen[t.Dot] {
			return true
		}
		seen[t.Dot] = true
	}
	return false
}

// isOverdrawn reports whether an office gave and used more of a stock than it got.
func isOverdrawn(s api.State) bool {
	for _, row := range free(s) {
		for _, amount := range row {
			if amount < 0 {
				return true
			}
		}
	}
	return false
}

func isName(name string) bool {
	if !isWithin(len(name), 1, maxName) {
		return false
	}
	for _, c := range []byte(name) {
		if (c < 'a' || c > 'z') && (c < '0' || c > '9') {
			return false
		}
	}
	return true
}

func isText(text string) bool { return len(text) <= api.MaxText }

func isOffice(office int) bool { return isWithin(office, 0, api.MaxOffice) }

func isStone(stone int) bool { return isWithin(stone, 0, api.MaxStone) }

func isStock(stock int) bool { return isWithin(stock, 0, api.MaxStock) }

func isAmount(amount int) bool { return isWithin(amount, 1, api.MaxCount) }

func isWithin(n, lo, hi int) bool { return lo <= n && n <= hi }
