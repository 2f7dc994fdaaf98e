package tender

import "kimberlite/api"

// hash is the FNV-1a hash of the bytes that were added to it.
type hash uint64

const (
	hashStart  hash = 14695981039346656037
	hashFactor hash = 1099511628211
)

// add adds the 8 bytes of a number, the lowest one first.
func (h *hash) add(number uint64) {
	for range 8 {
		*h = (*h ^ hash(number&0xff)) * hashFactor
		number >>= 8
	}
}

// Seal returns the seal of any offers, valid or not.
func Seal(offers []api.Offer, salt uint64) uint64 {
	h := hashStart
	readSealed(offers, salt, h.add)
	return uint64(h)
}

// readSealed lets read have the numbers that a seal is of, one by one.
func readSealed(offers []api.Offer, salt uint64, read func(number uint64)) {
	read(salt)
	for _, o := range offers {
		read(uint64(o.Buyer))
		read(uint64(o.Lots))
		read(uint64(o.Price))
	}
}
