package proof_test

import (
	"encoding/binary"
	"hash/fnv"
	"slices"
	"testing"

	"kimberlite/api"
	"kimberlite/proof"
)

const (
	maxInt     = int(^uint(0) >> 1)
	minInt     = -maxInt - 1
	maxEntries = api.MaxEntries
	maxEntry   = api.MaxEntry
)

// anyInts are numbers just at and beyond all limits, and far beyond them.
func anyInts() []int {
	l := []int{minInt, minInt + 1, -1 << 32, -maxEntries, -256, -3, -2, -1, 0, 1, 2, 3, 4, 5, 6, 7, 8, 9, 10, 255, 256, 257}
	l = append(l, maxEntries-1, maxEntries, maxEntries+1, 1<<32, 1<<32+1, 1<<32+5, 1<<33)
	return append(l, maxInt-1, maxInt)
}

// bigCounts are numbers of entries around powers of two, and up to the limit.
func bigCounts() []int {
	return []int{127, 128, 129, 200, 1023, 1024, 1025, 2047, 2049, 3000, 4094, 4095, 4096}
}

// texts makes an entry of each word.
func texts(words ...string) [][]byte {
	var l [][]byte
	for _, w := range words {
		l = append(l, []byte(w))
	}
	return l
}

// letters is n entries of one letter, from a on.
func letters(n int) [][]byte {
	var l [][]byte
	for i := range n {
		l = append(l, []byte{byte('a' + i)})
	}
	return l
}

// Hashes, in the chapter's words.

func hashOf(parts ...[]byte) uint64 {
	h := fnv.New64a()
	for _, p := range parts {
		h.Write(p)
	}
	return h.Sum64()
}

func number(n uint64) []byte { return binary.LittleEndian.AppendUint64(nil, n) }

func leafOf(entry []byte) uint64 { return hashOf([]byte{0}, entry) }

func nodeOf(l, r uint64) uint64 { return hashOf([]byte{1}, number(l), number(r)) }

// kOf is the greatest power of two that is less than n.
func kOf(n int) int {
	k := 1
	for k*2 < n {
		k *= 2
	}
	return k
}

func rootOf(l [][]byte) uint64 {
	if len(l) == 0 {
		return 0
	}
	if len(l) == 1 {
		return leafOf(l[0])
	}
	k := kOf(len(l))
	return nodeOf(rootOf(l[:k]), rootOf(l[k:]))
}

// includeOf is the steps of P7.2, found from above: the part of the list in which
// entry i is becomes smaller and smaller.
func includeOf(l [][]byte, i int) []api.Step {
	var steps []api.Step
	for len(l) > 1 {
		k := kOf(len(l))
		if i < k {
			steps = append(steps, api.Step{Hash: rootOf(l[k:])})
			l = l[:k]
			continue
		}
		steps = append(steps, api.Step{Hash: rootOf(l[:k]), Left: true})
		l, i = l[k:], i-k
	}
	slices.Reverse(steps)
	return steps
}

func followOf(entry []byte, steps []api.Step) uint64 {
	hash := leafOf(entry)
	for _, s := range steps {
		if s.Left {
			hash = nodeOf(s.Hash, hash)
		} else {
			hash = nodeOf(hash, s.Hash)
		}
	}
	return hash
}

// isIncluded is P7.3; the Lefts are those of any list of n entries.
func isIncluded(entry []byte, i, n int, root uint64, steps []api.Step) bool {
	own := includeOf(make([][]byte, n), i)
	if len(own) != len(steps) {
		return false
	}
	for j, s := range own {
		if s.Left != steps[j].Left {
			return false
		}
	}
	return followOf(entry, steps) == root
}

// extendOf is P7.4: the proof of m in a list, whole or not.
func extendOf(l [][]byte, m int, whole bool) []uint64 {
	n, k := len(l), kOf(len(l))
	switch {
	case m == n && whole:
		return nil
	case m == n:
		return []uint64{rootOf(l)}
	case m <= k:
		return append(extendOf(l[:k], m, whole), rootOf(l[k:]))
	default:
		return append(extendOf(l[k:], m-k, false), rootOf(l[:k]))
	}
}

// queue is hashes that are taken one by one.
type queue struct {
	hashes []uint64
	short  bool
}

func (q *queue) take() uint64 {
	if len(q.hashes) == 0 {
		q.short = true
		return 0
	}
	h := q.hashes[0]
	q.hashes = q.hashes[1:]
	return h
}

// twoRootsOf is the two roots of P7.5.
func twoRootsOf(m, n int, whole bool, old uint64, q *queue) (uint64, uint64) {
	k := kOf(n)
	switch {
	case m == n && whole:
		return old, old
	case m == n:
		h := q.take()
		return h, h
	case m <= k:
		o, w := twoRootsOf(m, k, whole, old, q)
		return o, nodeOf(w, q.take())
	default:
		o, w := twoRootsOf(m-k, n-k, false, old, q)
		h := q.take()
		return nodeOf(h, o), nodeOf(h, w)
	}
}

// isExtended is P7.5.
func isExtended(m, n int, old, root uint64, hashes []uint64) bool {
	q := &queue{hashes: hashes}
	o, w := twoRootsOf(m, n, true, old, q)
	return !q.short && len(q.hashes) == 0 && o == old && w == root
}

// wantErrno fails unless a call gave this error.
func wantErrno(t *testing.T, want, got api.Errno) {
	t.Helper()
	if got != want {
		t.Fatalf("error %d; want %d", got, want)
	}
}

// wantHash fails unless a call gave this hash, without an error.
func wantHash(t *testing.T, want uint64) func(uint64, api.Errno) {
	return func(got uint64, e api.Errno) {
		t.Helper()
		if got != want || e != api.OK {
			t.Fatalf("got %d, error %d; want %d", got, e, want)
		}
	}
}

// wantList fails unless a call gave this list, without an error.
func wantList[T comparable](t *testing.T, want ...T) func([]T, api.Errno) {
	return func(got []T, e api.Errno) {
		t.Helper()
		if !slices.Equal(got, want) || e != api.OK {
			t.Fatalf("got %v, error %d; want %v", got, e, want)
		}
	}
}

// wantNoList fails unless a call gave this error, and an empty list.
func wantNoList[T any](t *testing.T, want api.Errno) func([]T, api.Errno) {
	return func(got []T, e api.Errno) {
		t.Helper()
		if len(got) != 0 || e != want {
			t.Fatalf("got %v, error %d; want error %d", got, e, want)
		}
	}
}

// wantBool fails unless a call gave this answer, without an error.
func wantBool(t *testing.T, want bool) func(bool, api.Errno) {
	return func(got bool, e api.Errno) {
		t.Helper()
		if got != want || e != api.OK {
			t.Fatalf("got %v, error %d; want %v", got, e, want)
		}
	}
}

// wantNo fails unless a call gave this error, and false.
func wantNo(t *testing.T, want api.Errno) func(bool, api.Errno) {
	return func(got bool, e api.Errno) {
		t.Helper()
		if got || e != want {
			t.Fatalf("got %v, error %d; want error %d", got, e, want)
		}
	}
}

// dice gives numbers that are always the same ones.
type dice uint64

// hash is any hash.
func (d *dice) hash() uint64 {
	*d = *d*6364136223846793005 + 1442695040888963407
	x := uint64(*d)
	x = (x ^ x>>32) * 0xd6e8feb86659fd93
	return x ^ x>>32
}

// next is a number from 0 to n - 1.
func (d *dice) next(n int) int { return int(d.hash() % uint64(n)) }

// entry is an entry of a length up to most, more often a short one.
func (d *dice) entry(most int) []byte {
	size := d.next(most + 1)
	if d.next(3) > 0 {
		size = d.next(min(most, 12) + 1)
	}
	b := make([]byte, size)
	for i := range b {
		b[i] = byte(d.hash())
	}
	return b
}

// entries is n entries.
func (d *dice) entries(n, most int) [][]byte {
	var l [][]byte
	for range n {
		l = append(l, d.entry(most))
	}
	return l
}

// logOf makes a log of entries.
func logOf(t *testing.T, l [][]byte) *proof.Log {
	t.Helper()
	log := proof.New()
	for i, b := range l {
		if got, e := log.Add(b); got != i || e != api.OK {
			t.Fatalf("Add: %d, error %d; want %d", got, e, i)
		}
	}
	return log
}
