package tender_test

import (
	"encoding/binary"
	"hash/fnv"
	"math"
	"slices"
	"testing"

	"kimberlite/api"
	"kimberlite/tender"
)

// sealOf is what P5.4 says of offers.
func sealOf(l []api.Offer, salt uint64) uint64 {
	bytes := binary.LittleEndian.AppendUint64(nil, salt)
	for _, o := range l {
		for _, n := range []int{o.Buyer, o.Lots, o.Price} {
			bytes = binary.LittleEndian.AppendUint64(bytes, uint64(n))
		}
	}
	h := fnv.New64a()
	h.Write(bytes)
	return h.Sum64()
}

// P5.4: some seals, worked out apart from this program.
func TestSealNumbers(t *testing.T) {
	for _, c := range []struct {
		l    []api.Offer
		salt uint64
		want uint64
	}{
		{nil, 0, 12161962213042174405},
		{nil, 1, 9929646806074584996},
		{nil, math.MaxUint64, 10157053723145373757},
		{of(0, 1, 10), 9, 14342944846820414631},
		{of(1, 1, 7, 1, 2, 5), 10, 16563536437676591598},
		{of(-1, -2, minInt), 5, 16103393577591526353},
		{of(0, 0, 0), 0, 901300984310592933},
	} {
		if got := tender.Seal(c.l, c.salt); got != c.want {
			t.Errorf("%v with %d: %d; want %d", c.l, c.salt, got, c.want)
		}
	}
}

// P5.4: any offers, valid or not, however many there are.
func TestSeal(t *testing.T) {
	try := func(l []api.Offer, salt uint64) {
		t.Helper()
		if got, want := tender.Seal(l, salt), sealOf(l, salt); got != want {
			t.Fatalf("%d offers with %d: %d; want %d", len(l), salt, got, want)
		}
	}
	salts := []uint64{0, 1, 255, 256, 1 << 56, 1<<63 - 1, 1 << 63, math.MaxUint64}
	for _, salt := range salts {
		try(nil, salt)
		for _, a := range anyInts() {
			try(of(a, 1, 2), salt)
			try(of(1, a, 2), salt)
			try(of(1, 2, a), salt)
			try(of(a, a, a, 3, 2, 1), salt)
		}
	}
	d := dice(5)
	for count := range 60 {
		try(d.offers(count, 8, maxLots, 0), salts[count%len(salts)])
	}
	try(slices.Repeat(of(minInt, maxInt, -1), 1<<16), 3)
}

// P5.4: a seal is another one if any of its numbers is, or their order.
func TestSealsDiffer(t *testing.T) {
	l := of(1, 2, 3, 1, 4, 9)
	seen := map[uint64]bool{}
	see := func(l []api.Offer, salt uint64) {
		t.Helper()
		s := tender.Seal(l, salt)
		if seen[s] {
			t.Fatalf("%v with %d has a seal that another list has", l, salt)
		}
		seen[s] = true
	}
	see(l, 7)
	for bit := range 64 {
		see(l, 7^1<<bit)
		for i := range l {
			for _, o := range []api.Offer{{Buyer: 1 << bit}, {Lots: 1 << bit}, {Price: 1 << bit}} {
				other := slices.Clone(l)
				other[i] = api.Offer{Buyer: l[i].Buyer ^ o.Buyer, Lots: l[i].Lots ^ o.Lots, Price: l[i].Price ^ o.Price}
				see(other, 7)
			}
		}
	}
	see(of(1, 4, 9, 1, 2, 3), 7)
	see(l[:1], 7)
	see(l[1:], 7)
	see(nil, 7)
	see(append(l, of(0, 0, 0)...), 7)
	see(slices.Repeat(l, 2), 7)
}
