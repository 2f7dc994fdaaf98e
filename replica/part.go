package replica

import (
	"cmp"
	"slices"

	"kimberlite/api"
)

// part tells of the entries of one part of a state where they belong, and which of
// two that belong to one place counts.
type part[T any] struct {
	// place orders the entries of a list; it is 0 for two of one place.
	place func(x, y T) int
	// rank orders entries of one place; the greatest one counts.
	rank func(x, y T) int
}

// find returns the entry of a list that is in the place of x.
func (p part[T]) find(l []T, x T) (T, bool) {
	i, found := slices.BinarySearchFunc(l, x, p.place)
	if !found {
		var nothing T
		return nothing, false
	}
	return l[i], true
}

// lay puts x into its place in a list, unless what is there counts more. It may write
// to the list that it is given.
func (p part[T]) lay(l []T, x T) []T {
	i, found := slices.BinarySearchFunc(l, x, p.place)
	if !found {
		return slices.Insert(l, i, x)
	}
	if p.rank(x, l[i]) > 0 {
		l[i] = x
	}
	return l
}

// merged returns what counts of the entries of two lists, in a new one.
func merged[T any](p part[T], a, b []T) []T {
	all := slices.Clone(a)
	for _, x := range b {
		all = p.lay(all, x)
	}
	return all
}

// areRight reports whether a list is strictly ascending, and all its entries may be.
func areRight[T any](p part[T], l []T, may func(T) bool) bool {
	for i, x := range l {
		if !may(x) || i > 0 && p.place(l[i-1], x) >= 0 {
			return false
		}
	}
	return true
}

func tags() part[api.Tag] {
	return part[api.Tag]{
		place: func(x, y api.Tag) int {
			return cmp.Or(cmp.Compare(x.Stone, y.Stone), cmp.Compare(x.Name, y.Name),
				cmp.Compare(x.Dot.Office, y.Dot.Office), cmp.Compare(x.Dot.Count, y.Dot.Count))
		},
		// All of a tag is its place: two of one place are the same.
		rank: func(x, y api.Tag) int { return 0 },
	}
}

func notes() part[api.Note] {
	return part[api.Note]{
		place: func(x, y api.Note) int { return cmp.Compare(x.Stone, y.Stone) },
		rank: func(x, y api.Note) int {
			return cmp.Or(cmp.Compare(x.Time, y.Time), cmp.Compare(x.Office, y.Office), cmp.Compare(x.Text, y.Text))
		},
	}
}

func rights() part[api.Right] {
	return part[api.Right]{
		place: func(x, y api.Right) int {
			return cmp.Or(cmp.Compare(x.Stock, y.Stock), cmp.Compare(x.From, y.From), cmp.Compare(x.To, y.To))
		},
		rank: func(x, y api.Right) int { return cmp.Compare(x.Amount, y.Amount) },
	}
}

func used() part[api.Used] {
	return part[api.Used]{
		place: func(x, y api.Used) int {
			return cmp.Or(cmp.Compare(x.Stock, y.Stock), cmp.Compare(x.Office, y.Office))
		},
		rank: func(x, y api.Used) int { return cmp.Compare(x.Amount, y.Amount) },
	}
}
