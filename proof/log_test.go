package proof_test

import (
	"bytes"
	"slices"
	"testing"

	"kimberlite/api"
	"kimberlite/proof"
)

// wantLog fails unless a log shows all that a list of entries does. Of proofs, it
// asks only for those of the first n entries, for these n.
func wantLog(t *testing.T, log *proof.Log, l [][]byte, counts ...int) {
	t.Helper()
	if log.Len() != len(l) || log.Root() != rootOf(l) {
		t.Fatalf("%d entries, root %d; want %d, %d", log.Len(), log.Root(), len(l), rootOf(l))
	}
	for i, want := range l {
		if got, e := log.Entry(i); !bytes.Equal(got, want) || e != api.OK {
			t.Fatalf("entry %d: %v, error %d; want %v", i, got, e, want)
		}
	}
	wantHash(t, 0)(log.RootAt(0))
	for _, n := range counts {
		wantHash(t, rootOf(l[:n]))(log.RootAt(n))
		for i := range n {
			wantList(t, includeOf(l[:n], i)...)(log.Include(i, n))
			wantList(t, extendOf(l[:n], i+1, true)...)(log.Extend(i+1, n))
		}
	}
}

// wantNothing fails unless a log refuses all numbers that are none of its own.
func wantNothing(t *testing.T, log *proof.Log) {
	t.Helper()
	size := log.Len()
	numbers := append(anyInts(), size-1, size, size+1, size+2)
	for _, n := range numbers {
		if n < 0 || n > size {
			if r, e := log.RootAt(n); r != 0 || e != api.ErrNone {
				t.Fatalf("RootAt(%d): %d, error %d", n, r, e)
			}
		}
		if n < 0 || n >= size {
			wantNoList[byte](t, api.ErrNone)(log.Entry(n))
		}
		for _, i := range append(numbers, n-1, n, n+1) {
			if n < 1 || n > size {
				wantNoList[api.Step](t, api.ErrNone)(log.Include(i, n))
				wantNoList[uint64](t, api.ErrNone)(log.Extend(i, n))
				continue
			}
			if i < 0 || i >= n {
				wantNoList[api.Step](t, api.ErrNone)(log.Include(i, n))
			}
			if i < 1 || i > n {
				wantNoList[uint64](t, api.ErrArg)(log.Extend(i, n))
			}
		}
	}
}

// P7.7: a log is as the list of what was added, each time; and P7.10: all that was
// once said of it still holds.
func TestLog(t *testing.T) {
	d := dice(40)
	l := d.entries(45, 20)
	log := proof.New()
	wantLog(t, log, nil)
	wantNothing(t, log)
	for n := 1; n <= len(l); n++ {
		if i, e := log.Add(l[n-1]); i != n-1 || e != api.OK {
			t.Fatalf("Add: %d, error %d", i, e)
		}
		counts := []int{n}
		if n%9 == 0 {
			for m := 1; m <= n; m++ {
				counts = append(counts, m)
			}
		}
		wantLog(t, log, l[:n], counts...)
		if n < 12 || n%16 < 2 {
			wantNothing(t, log)
		}
	}
}

// P7.7: the root after each entry, up to a full log, and roots that are long past.
func TestLogLong(t *testing.T) {
	d := dice(41)
	l := d.entries(maxEntries, 12)
	log := proof.New()
	for i, b := range l {
		if got, e := log.Add(b); got != i || e != api.OK {
			t.Fatalf("Add: %d, error %d; want %d", got, e, i)
		}
		root := log.Root()
		wantHash(t, root)(log.RootAt(i + 1))
		if i%64 == 0 && root != rootOf(l[:i+1]) {
			t.Fatalf("%d entries: root %d; want %d", i+1, root, rootOf(l[:i+1]))
		}
	}
	wantLog(t, log, l, 1, 2, 3, 65)
	for _, n := range bigCounts() {
		wantHash(t, rootOf(l[:n]))(log.RootAt(n))
		for _, i := range []int{0, d.next(n), n - 1} {
			wantList(t, includeOf(l[:n], i)...)(log.Include(i, n))
			wantList(t, extendOf(l[:n], i+1, true)...)(log.Extend(i+1, n))
		}
	}
	wantNothing(t, log)
}

// P7.7: entries that are too long, and a log that is full.
func TestAddErrors(t *testing.T) {
	add := func(log *proof.Log, b []byte, want api.Errno) {
		t.Helper()
		before, root := log.Len(), log.Root()
		if i, e := log.Add(b); i != 0 || e != want {
			t.Fatalf("Add of %d bytes: %d, error %d; want error %d", len(b), i, e, want)
		}
		if log.Len() != before || log.Root() != root {
			t.Fatalf("Add of %d bytes changed the log", len(b))
		}
	}
	most, long := make([]byte, maxEntry), make([]byte, maxEntry+1)
	log := proof.New()
	var l [][]byte
	for n := range maxEntries {
		if n < 10 {
			add(log, long, api.ErrLimit)
			add(log, make([]byte, 1<<20), api.ErrLimit)
			wantLog(t, log, l, n)
		}
		b := [][]byte{nil, {}, {1}, most}[n%4]
		l = append(l, b)
		if i, e := log.Add(b); i != n || e != api.OK {
			t.Fatalf("Add: %d, error %d; want %d", i, e, n)
		}
	}
	add(log, nil, api.ErrFull)
	add(log, most, api.ErrFull)
	add(log, long, api.ErrLimit)
	wantLog(t, log, l)
	// There is no room in a copy either.
	add(log.Copy(), nil, api.ErrFull)
}

// P7.7: a copy goes on alone, and so does what it was made of.
func TestCopy(t *testing.T) {
	d := dice(42)
	for n := range 36 {
		l := d.entries(n, 10)
		a := logOf(t, l)
		b := a.Copy()
		c := b.Copy()
		aList, bList := slices.Clone(l), slices.Clone(l)
		for range 20 {
			x, y := d.entry(10), d.entry(10)
			for range 1 + d.next(2) {
				a.Add(x)
				aList = append(aList, x)
			}
			for range 1 + d.next(2) {
				b.Add(y)
				bList = append(bList, y)
			}
			wantLog(t, a, aList)
			wantLog(t, b, bList)
		}
		wantLog(t, a, aList, len(aList), n)
		wantLog(t, b, bList, len(bList), n)
		wantLog(t, c, l, n)
		wantNothing(t, c)
	}
}

// P7.7: many logs, each copied from any other one at any time.
func TestCopies(t *testing.T) {
	d := dice(43)
	for range 20 {
		logs, lists := []*proof.Log{proof.New()}, [][][]byte{nil}
		for range 300 {
			i := d.next(len(logs))
			if d.next(8) == 0 && len(logs) < 12 {
				logs, lists = append(logs, logs[i].Copy()), append(lists, slices.Clone(lists[i]))
				continue
			}
			b := d.entry(6)
			if got, e := logs[i].Add(b); got != len(lists[i]) || e != api.OK {
				t.Fatalf("Add: %d, error %d; want %d", got, e, len(lists[i]))
			}
			lists[i] = append(lists[i], b)
		}
		for i, log := range logs {
			n := len(lists[i])
			wantLog(t, log, lists[i], n/2, n)
		}
	}
}
