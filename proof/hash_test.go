package proof_test

import (
	"bytes"
	"slices"
	"testing"

	"kimberlite/api"
	"kimberlite/proof"
)

// P7.1: some hashes, worked out apart from this program.
func TestMixNumbers(t *testing.T) {
	for _, c := range []struct {
		text string
		want uint64
	}{
		{"", 0xcbf29ce484222325},
		{"a", 0xaf63dc4c8601ec8c},
		{"foobar", 0x85944171f73967e8},
		{"\x00", 0xaf63bd4c8601b7df},
		{"\xff", 0xaf64724c8602eb6e},
	} {
		if got := proof.Mix([]byte(c.text)); got != c.want {
			t.Errorf("Mix of %q is %x; want %x", c.text, got, c.want)
		}
	}
	if proof.Mix(nil) != proof.Mix([]byte{}) {
		t.Errorf("Mix of nil is %d", proof.Mix(nil))
	}
}

// P7.1: any bytes, also more than an entry may have.
func TestHashes(t *testing.T) {
	d := dice(1)
	try := func(b []byte) {
		t.Helper()
		if got, want := proof.Mix(b), hashOf(b); got != want {
			t.Fatalf("Mix of %d bytes: %d; want %d", len(b), got, want)
		}
		if got, want := proof.Leaf(b), leafOf(b); got != want {
			t.Fatalf("Leaf of %d bytes: %d; want %d", len(b), got, want)
		}
		if got := proof.Leaf(b); got != proof.Mix(append([]byte{0}, b...)) {
			t.Fatalf("Leaf of %d bytes: %d", len(b), got)
		}
	}
	try(nil)
	for n := range 256 {
		try([]byte{byte(n)})
		try(bytes.Repeat([]byte{byte(n)}, n+1))
	}
	for range 2000 {
		try(d.entry(maxEntry + 50))
	}
	try(make([]byte, 1<<20))
}

// P7.1: any two hashes.
func TestNode(t *testing.T) {
	d := dice(2)
	l := []uint64{0, 1, 255, 256, 1 << 32, 1<<56 - 1, 1 << 56, 1<<63 - 1, 1 << 63, 1<<64 - 1, 0x0102030405060708}
	for range 40 {
		l = append(l, d.hash())
	}
	seen := map[uint64]bool{}
	for _, a := range l {
		for _, b := range l {
			got := proof.Node(a, b)
			if got != nodeOf(a, b) || seen[got] {
				t.Fatalf("Node of %d and %d: %d; want %d", a, b, got, nodeOf(a, b))
			}
			seen[got] = true
		}
	}
	b := []byte{1, 8, 7, 6, 5, 4, 3, 2, 1, 0, 0, 0, 0, 0, 0, 0, 128}
	if got := proof.Node(0x0102030405060708, 1<<63); got != proof.Mix(b) {
		t.Errorf("Node is %d; want %d", got, proof.Mix(b))
	}
}

// P7.1: roots, node by node.
func TestRootShapes(t *testing.T) {
	node := proof.Node
	l := letters(7)
	var x []uint64
	for _, b := range l {
		x = append(x, proof.Leaf(b))
	}
	four := node(node(x[0], x[1]), node(x[2], x[3]))
	for n, want := range []uint64{
		0,
		x[0],
		node(x[0], x[1]),
		node(node(x[0], x[1]), x[2]),
		four,
		node(four, x[4]),
		node(four, node(x[4], x[5])),
		node(four, node(node(x[4], x[5]), x[6])),
	} {
		wantHash(t, want)(proof.Root(l[:n]))
	}
	wantHash(t, 0)(proof.Root(nil))
	wantHash(t, 0)(proof.Root([][]byte{}))
	wantHash(t, proof.Mix([]byte{0}))(proof.Root([][]byte{nil}))
	wantHash(t, proof.Mix([]byte{0}))(proof.Root([][]byte{{}}))
	wantHash(t, node(x[0], x[0]))(proof.Root(texts("a", "a")))
	// An entry is not taken for the node that it spells.
	spelt := append(append([]byte{1}, number(x[0])...), number(x[1])...)
	if r, _ := proof.Root([][]byte{spelt}); r == node(x[0], x[1]) {
		t.Errorf("the root of %v is that of two entries", spelt)
	}
}

// P7.1: lists of any length, of long and of short entries.
func TestRoot(t *testing.T) {
	d := dice(3)
	for n := range 140 {
		l := d.entries(n, maxEntry)
		wantHash(t, rootOf(l))(proof.Root(l))
	}
	for _, n := range bigCounts() {
		l := d.entries(n, 20)
		wantHash(t, rootOf(l))(proof.Root(l))
	}
	full := slices.Repeat([][]byte{make([]byte, maxEntry)}, maxEntries)
	wantHash(t, rootOf(full))(proof.Root(full))
}

// P7.1, P7.2, P7.4: a list that is too long, or has an entry that is, before whatever
// else is wrong.
func TestLimits(t *testing.T) {
	long := make([]byte, maxEntry+1)
	lists := [][][]byte{
		slices.Repeat(texts("a"), maxEntries+1),
		make([][]byte, maxEntries+1),
		slices.Repeat(texts("a"), 2*maxEntries),
		{long},
		{make([]byte, 1<<16)},
		{nil, long},
		{long, nil},
		{nil, nil, long, nil},
		append(slices.Repeat(texts("a"), maxEntries-1), long),
	}
	for _, l := range lists {
		if r, e := proof.Root(l); r != 0 || e != api.ErrLimit {
			t.Fatalf("Root of %d entries: %d, error %d", len(l), r, e)
		}
		for _, i := range anyInts() {
			wantNoList[api.Step](t, api.ErrLimit)(proof.Include(l, i))
			wantNoList[uint64](t, api.ErrLimit)(proof.Extend(l, i))
		}
	}
}
