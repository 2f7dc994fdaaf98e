package proof

import (
	"bytes"
	"math/bits"
	"slices"

	"kimberlite/api"
)

// Log is a list of entries to which entries are only ever added.
type Log struct {
	// made is false only of a log that no function of this package returned.
	made bool
	// entries are never written to, nor given away, so that copies can share them.
	entries [][]byte
	// peaks are the roots of the parts of which the log consists: one for each binary
	// digit 1 of how many entries there are, the greatest part first.
	peaks []uint64
}

// New returns a log without entries.
func New() *Log { return &Log{made: true} }

// Add puts an entry at the end, and returns its index.
func (l *Log) Add(entry []byte) (int, api.Errno) {
	if !l.isMade() {
		return 0, api.ErrNil
	}
	if isTooLong(entry) {
		return 0, api.ErrLimit
	}
	if len(l.entries) == api.MaxEntries {
		return 0, api.ErrFull
	}
	l.entries = append(l.entries, bytes.Clone(entry))
	l.raise(Leaf(entry))
	return len(l.entries) - 1, api.OK
}

// raise puts the leaf of the last entry behind the peaks, and makes one peak of any
// two of parts of one size.
func (l *Log) raise(leaf uint64) {
	peak := leaf
	for range bits.TrailingZeros(uint(len(l.entries))) {
		last := len(l.peaks) - 1
		peak = Node(l.peaks[last], peak)
		l.peaks = l.peaks[:last]
	}
	l.peaks = append(l.peaks, peak)
}

// Len returns how many entries there are.
func (l *Log) Len() int {
	if !l.isMade() {
		return 0
	}
	return len(l.entries)
}

// Root returns the root of all entries.
func (l *Log) Root() uint64 {
	if l.Len() == 0 {
		return 0
	}
	last := len(l.peaks) - 1
	root := l.peaks[last]
	for _, peak := range slices.Backward(l.peaks[:last]) {
		root = Node(peak, root)
	}
	return root
}

// RootAt returns the root of the first n entries.
func (l *Log) RootAt(n int) (uint64, api.Errno) {
	if !l.isMade() {
		return 0, api.ErrNil
	}
	if n < 0 || n > len(l.entries) {
		return 0, api.ErrNone
	}
	return rootOf(l.entries[:n:n]), api.OK
}

// Entry returns an entry.
func (l *Log) Entry(i int) ([]byte, api.Errno) {
	if !l.isMade() {
		return nil, api.ErrNil
	}
	if i < 0 || i >= len(l.entries) {
		return nil, api.ErrNone
	}
	return bytes.Clone(l.entries[i]), api.OK
}

// Include returns the steps that prove that entry i is among the first n entries.
func (l *Log) Include(i, n int) ([]api.Step, api.Errno) {
	if !l.isMade() {
		return nil, api.ErrNil
	}
	if n < 1 || n > len(l.entries) || i < 0 || i >= n {
		return nil, api.ErrNone
	}
	return stepsOf(l.entries[:n:n], i), api.OK
}

// Extend returns the hashes that prove that the first n entries begin with the first
// m.
func (l *Log) Extend(m, n int) ([]uint64, api.Errno) {
	if !l.isMade() {
		return nil, api.ErrNil
	}
	if n < 1 || n > len(l.entries) {
		return nil, api.ErrNone
	}
	if m < 1 || m > n {
		return nil, api.ErrArg
	}
	return growth(l.entries[:n:n], m, true), api.OK
}

// Copy returns a log of its own, which is as this one is now.
func (l *Log) Copy() *Log {
	if !l.isMade() {
		return nil
	}
	c := &Log{made: true, entries: slices.Clone(l.entries), peaks: make([]uint64, len(l.peaks))}
	copy(c.peaks, l.peaks)
	return c
}

// isMade reports whether New made the log, or Copy of one that is made.
func (l *Log) isMade() bool { return l != nil && l.made }
