package proof_test

import (
	"bytes"
	"math"
	"slices"
	"testing"

	"kimberlite/api"
)

// The tests of Accuse need byte strings that collide. FNV-1a multiplies by a known
// odd number, so that it can be run backwards, and a way from one state to another
// one is a sum of small numbers times powers of that number: those are found near a
// point of a lattice.

const (
	start   = 14695981039346656037
	factor  = 1099511628211
	inverse = 14886173955864302971 // factor * inverse is 1 modulo 2^64
)

// short are the rows of a lattice: with each of them, the sum of its numbers times
// factor^7, factor^6, .. factor^0 is 0 modulo 2^64.
func short() [][8]int64 {
	return [][8]int64{
		{1, 34, 64, -28, -199, -140, 161, 117},
		{-6, 27, 59, -182, 64, 121, 81, 160},
		{-22, 79, -177, -106, -3, -47, 41, 149},
		{61, -148, -40, 4, -89, 47, -171, -138},
		{-70, -10, 73, -40, -31, 19, -225, -122},
		{-137, -72, 22, -194, 171, -63, 21, -54},
		{178, -62, -63, -12, 84, 19, -152, 210},
		{-167, -140, -41, 89, -125, -25, -5, 122},
	}
}

func TestShort(t *testing.T) {
	if f := uint64(factor); f*inverse != 1 {
		t.Errorf("%d is no inverse", uint64(inverse))
	}
	for _, row := range short() {
		sum := uint64(0)
		for _, x := range row {
			sum = sum*factor + uint64(x)
		}
		if sum != 0 {
			t.Errorf("the sum of %v is %d", row, sum)
		}
	}
}

// mixed is the state to which bytes lead from another one.
func mixed(state uint64, b []byte) uint64 {
	for _, c := range b {
		state = (state ^ uint64(c)) * factor
	}
	return state
}

// unmixed is the state from which bytes lead to this one.
func unmixed(state uint64, b []byte) uint64 {
	for _, c := range slices.Backward(b) {
		state = state*inverse ^ uint64(c)
	}
	return state
}

// small makes the numbers of a vector small, by short rows only.
func small(v [8]int64) [8]int64 {
	for range 200 {
		before := v
		for _, row := range short() {
			dot, square := 0.0, 0.0
			for i := range row {
				dot += float64(v[i]) * float64(row[i])
				square += float64(row[i] * row[i])
			}
			times := int64(math.Round(dot / square))
			for i := range row {
				v[i] -= times * row[i]
			}
		}
		if v == before {
			break
		}
	}
	return v
}

// reach looks for 8 bytes that stand between a head and a tail in a string of this
// hash. For about one of twenty heads it finds some.
func reach(head, tail []byte, hash uint64) ([]byte, bool) {
	state, end := mixed(start, head), unmixed(hash, tail)
	// To exchange a state's lowest byte is to add a number to it; what all 8 of these
	// add, each times a power of factor, must be what is missing.
	missing := end * inverse
	plain := state
	for range 7 {
		plain *= factor
	}
	changes := small([8]int64{7: int64(missing - plain)})
	var found []byte
	for _, change := range changes {
		low := int64(state & 255)
		if low+change < 0 || low+change > 255 {
			return nil, false
		}
		found = append(found, byte(low^(low+change)))
		state = mixed(state, found[len(found)-1:])
	}
	return found, state == end
}

// TestReach checks the checker.
func TestReach(t *testing.T) {
	d := dice(29)
	found := 0
	for range 2000 {
		head, tail, hash := d.entry(20), d.entry(20), d.hash()
		if b, ok := reach(head, tail, hash); ok {
			found++
			if hashOf(head, b, tail) != hash || len(b) != 8 {
				t.Fatalf("%v between %v and %v leads to %d; want %d", b, head, tail, hashOf(head, b, tail), hash)
			}
		}
	}
	if found < 20 {
		t.Errorf("only %d were found", found)
	}
}

// twoWays are two entries with steps from one place.
type twoWays struct {
	one, two           []byte
	oneSteps, twoSteps []api.Step
}

// twinOf is another entry with the leaf of an entry.
func (d *dice) twinOf(entry []byte) []byte {
	for {
		head := append([]byte{0}, d.entry(40)...)
		b, ok := reach(head, nil, leafOf(entry))
		if twin := append(head[1:], b...); ok && !bytes.Equal(twin, entry) {
			return twin
		}
	}
}

// otherThan is another entry.
func (d *dice) otherThan(entry []byte) []byte {
	for {
		if other := d.entry(maxEntry); !bytes.Equal(other, entry) {
			return other
		}
	}
}

// stepString is what is mixed for the node to which a step leads.
func stepString(hash uint64, s api.Step) []byte {
	l := [][]byte{{1}, number(hash), number(s.Hash)}
	if s.Left {
		l = [][]byte{{1}, number(s.Hash), number(hash)}
	}
	return bytes.Join(l, nil)
}

// twinStep is two steps on one side, that lead from two hashes to one hash, by
// different strings.
func (d *dice) twinStep(one, two uint64, left bool) (api.Step, api.Step) {
	for {
		twoStep := api.Step{Hash: d.hash(), Left: left}
		head, tail := append([]byte{1}, number(one)...), []byte(nil)
		if left {
			head, tail = []byte{1}, number(one)
		}
		b, ok := reach(head, tail, hashOf(stepString(two, twoStep)))
		if !ok {
			continue
		}
		oneStep := api.Step{Left: left}
		for i, c := range b {
			oneStep.Hash += uint64(c) << (8 * i)
		}
		if one != two || oneStep != twoStep {
			return oneStep, twoStep
		}
	}
}

// collide makes two ways with these Lefts, whose strings all differ, but whose hashes
// are the same at the levels at which meets is true: the first one is that of the
// leaves.
func (d *dice) collide(lefts, meets []bool) twoWays {
	w := twoWays{one: d.entry(maxEntry)}
	w.two = d.otherThan(w.one)
	if meets[0] {
		w.two = d.twinOf(w.one)
	}
	for i, left := range lefts {
		oneHash, twoHash := followOf(w.one, w.oneSteps), followOf(w.two, w.twoSteps)
		oneStep, twoStep := api.Step{Hash: d.hash(), Left: left}, api.Step{Hash: d.hash(), Left: left}
		if meets[i+1] {
			oneStep, twoStep = d.twinStep(oneHash, twoHash, left)
		}
		w.oneSteps, w.twoSteps = append(w.oneSteps, oneStep), append(w.twoSteps, twoStep)
	}
	return w
}
