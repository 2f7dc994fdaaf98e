package proof

import "kimberlite/api"

const (
	hashStart  = 14695981039346656037
	hashFactor = 1099511628211

	// What is mixed for a leaf and for a node begins differently, so that neither can
	// be taken for the other.
	leafMark = 0
	nodeMark = 1
)

// Mix returns the FNV-1a hash of bytes.
func Mix(b []byte) uint64 { return mixOn(hashStart, b) }

// Leaf returns the hash of an entry.
func Leaf(entry []byte) uint64 { return mixOn(Mix([]byte{leafMark}), entry) }

// Node returns the hash of two hashes, the left one and the right one.
func Node(l, r uint64) uint64 { return Mix(nodeBytes(l, r)) }

// Follow returns the hash to which the leaf of an entry leads by steps.
func Follow(entry []byte, steps []api.Step) uint64 {
	hash := Leaf(entry)
	for _, s := range steps {
		hash = Mix(stepBytes(hash, s))
	}
	return hash
}

// mixOn returns the hash of some bytes and of b behind them, from the hash of those.
func mixOn(hash uint64, b []byte) uint64 {
	for _, x := range b {
		hash = (hash ^ uint64(x)) * hashFactor
	}
	return hash
}

// leafBytes returns what is mixed for the leaf of an entry.
func leafBytes(entry []byte) []byte {
	return append([]byte{leafMark}, entry...)
}

// nodeBytes returns what is mixed for the node of two hashes.
func nodeBytes(l, r uint64) []byte {
	b := make([]byte, 0, 17)
	b = append(b, nodeMark)
	return appendNumber(appendNumber(b, l), r)
}

// stepBytes returns what is mixed for the node to which a step leads from a hash.
func stepBytes(hash uint64, s api.Step) []byte {
	if s.Left {
		return nodeBytes(s.Hash, hash)
	}
	return nodeBytes(hash, s.Hash)
}

// appendNumber appends the 8 bytes of a number, the lowest one first.
func appendNumber(b []byte, number uint64) []byte {
	for range 8 {
		b = append(b, byte(number))
		number >>= 8
	}
	return b
}
