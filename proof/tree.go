package proof

import (
	"math/bits"
	"slices"

	"kimberlite/api"
)

// half returns how many of n entries, of which there are at least two, are on the
// left: the greatest power of two that is less than n.
func half(n int) int { return 1 << (bits.Len(uint(n-1)) - 1) }

// halves returns the two parts of a list whose roots make the root of the list.
func halves(entries [][]byte) (first, others [][]byte) {
	k := half(len(entries))
	return entries[:k:k], entries[k:]
}

// rootOf returns the root of a list.
func rootOf(entries [][]byte) uint64 {
	switch len(entries) {
	case 0:
		return 0
	case 1:
		return Leaf(entries[0])
	}
	first, others := halves(entries)
	return Node(rootOf(first), rootOf(others))
}

// stepsOf returns the steps from entry i of a list up to its root.
func stepsOf(entries [][]byte, i int) []api.Step {
	if len(entries) == 1 {
		return nil
	}
	first, others := halves(entries)
	if i < len(first) {
		return append(stepsOf(first, i), api.Step{Hash: rootOf(others)})
	}
	return append(stepsOf(others, i-len(first)), api.Step{Hash: rootOf(first), Left: true})
}

// sides returns the Lefts of the steps from entry i of n.
func sides(i, n int) []bool {
	if n == 1 {
		return nil
	}
	k := half(n)
	if i < k {
		return append(sides(i, k), false)
	}
	return append(sides(i-k, n-k), true)
}

// leadFrom reports whether steps are as many as those from entry i of n, and their
// Lefts are the same.
func leadFrom(i, n int, steps []api.Step) bool {
	return slices.EqualFunc(steps, sides(i, n), func(s api.Step, left bool) bool { return s.Left == left })
}

// growth returns the proof of the first m entries in a list. If they are whole, their
// root is known to whom it is shown.
func growth(entries [][]byte, m int, whole bool) []uint64 {
	if m == len(entries) {
		if whole {
			return nil
		}
		return []uint64{rootOf(entries)}
	}
	first, others := halves(entries)
	if m <= len(first) {
		return append(growth(first, m, whole), rootOf(others))
	}
	return append(growth(others, m-len(first), false), rootOf(first))
}

// twoRoots returns the two roots that hashes make of m in n, and whether the hashes
// are just as many as are taken. Since the uppermost node takes the last hash, its
// two parts must do with those before.
func twoRoots(m, n int, whole bool, old uint64, hashes []uint64) (begin, all uint64, fit bool) {
	if m == n && whole {
		return old, old, len(hashes) == 0
	}
	if len(hashes) == 0 {
		return 0, 0, false
	}
	last := len(hashes) - 1
	hash, before := hashes[last], hashes[:last:last]
	if m == n {
		return hash, hash, last == 0
	}
	k := half(n)
	if m <= k {
		begin, all, fit = twoRoots(m, k, whole, old, before)
		return begin, Node(all, hash), fit
	}
	begin, all, fit = twoRoots(m-k, n-k, false, old, before)
	return Node(hash, begin), Node(hash, all), fit
}
