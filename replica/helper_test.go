package replica_test

import (
	"slices"
	"testing"

	"kimberlite/api"
	"kimberlite/replica"
)

const (
	maxInt   = int(^uint(0) >> 1)
	minInt   = -maxInt - 1
	maxCount = api.MaxCount
	maxTags  = api.MaxTags
)

// anyInts are numbers just at and beyond all limits, and far beyond them.
func anyInts() []int {
	l := []int{minInt, minInt + 1, -maxCount - 1, -maxCount, -65, -64, -63, -8, -7, -2, -1, 0, 1, 2, 3, 6, 7, 8, 9, 31, 32, 33}
	l = append(l, 62, 63, 64, 65, 127, 128, 129, 255, 256, 257, maxCount-1, maxCount, maxCount+1, 1<<31-1, 1<<31)
	return append(l, 1<<32, 1<<32+1, 1<<32+7, 1<<62, maxInt-1, maxInt)
}

// badNames can be no names of tags.
func badNames() []string {
	return []string{"", "A", "Z", "aB", "abcdefghi", "0123456789", " ", "a ", " a", "a b", "-", "_", "a.", "/", ":", "`", "{", "@", "[",
		"\x00", "a\x00", "é", "\xff", "a\n", "abcdefg!", "aaaaaaaaaaaaaaaa", "٣"}
}

// goodNames can be names of tags.
func goodNames() []string {
	return []string{"a", "z", "0", "9", "a0", "00", "abcdefgh", "01234567", "z9z9z9z9"}
}

// What the chapter asks of numbers and strings.
func isOffice(n int) bool { return n >= 0 && n <= 7 }
func isStone(n int) bool  { return n >= 0 && n <= 63 }
func isStock(n int) bool  { return n >= 0 && n <= 7 }
func isAmount(n int) bool { return n >= 1 && n <= 1<<30 }

func isName(name string) bool {
	const may = "abcdefghijklmnopqrstuvwxyz0123456789"
	for i := range len(name) {
		if !slices.Contains([]byte(may), name[i]) {
			return false
		}
	}
	return len(name) >= 1 && len(name) <= 8
}

// seen is a list of what was seen of the first offices, and of the others nothing.
func seen(counts ...int) []int { return append(counts, make([]int, 8-len(counts))...) }

func tag(stone int, name string, office, count int) api.Tag {
	return api.Tag{Stone: stone, Name: name, Dot: api.Dot{Office: office, Count: count}}
}

func note(stone int, text string, time, office int) api.Note {
	return api.Note{Stone: stone, Text: text, Time: time, Office: office}
}

func right(stock, from, to, amount int) api.Right {
	return api.Right{Stock: stock, From: from, To: to, Amount: amount}
}

func used(stock, office, amount int) api.Used {
	return api.Used{Stock: stock, Office: office, Amount: amount}
}

// manyTags are n tags of an office, of the stones from 0 on with two names.
func manyTags(n, office int, names ...string) []api.Tag {
	var l []api.Tag
	for i := range n {
		l = append(l, tag(i/len(names), names[i%len(names)], office, i+1))
	}
	return l
}

// same reports whether two states are the same; empty lists are, nil or not.
func same(a, b api.State) bool {
	return slices.Equal(a.Seen, b.Seen) && slices.Equal(a.Tags, b.Tags) && slices.Equal(a.Notes, b.Notes) &&
		slices.Equal(a.Rights, b.Rights) && slices.Equal(a.Used, b.Used)
}

// deep is a state of its own.
func deep(s api.State) api.State {
	return api.State{Seen: slices.Clone(s.Seen), Tags: slices.Clone(s.Tags), Notes: slices.Clone(s.Notes),
		Rights: slices.Clone(s.Rights), Used: slices.Clone(s.Used)}
}

// begin is a replica that knows nothing.
func begin(t *testing.T, office int) *replica.Replica {
	t.Helper()
	r, e := replica.New(office)
	wantErrno(t, api.OK, e)
	return r
}

// load is a replica that knows a state.
func load(t *testing.T, office int, s api.State) *replica.Replica {
	t.Helper()
	r, e := replica.Load(office, s)
	wantErrno(t, api.OK, e)
	return r
}

func wantErrno(t *testing.T, want, got api.Errno) {
	t.Helper()
	if got != want {
		t.Fatalf("error %d; want %d", got, want)
	}
}

// wantNumber fails unless a call gave this number, without an error.
func wantNumber(t *testing.T, want int) func(int, api.Errno) {
	return func(got int, e api.Errno) {
		t.Helper()
		if got != want || e != api.OK {
			t.Fatalf("got %d, error %d; want %d", got, e, want)
		}
	}
}

// wantRefused fails unless a call gave this error, and 0.
func wantRefused(t *testing.T, want api.Errno) func(int, api.Errno) {
	return func(got int, e api.Errno) {
		t.Helper()
		if got != 0 || e != want {
			t.Fatalf("got %d, error %d; want error %d", got, e, want)
		}
	}
}

// wantNames fails unless Has gives these names.
func wantNames(t *testing.T, r *replica.Replica, stone int, want ...string) {
	t.Helper()
	if got, e := r.Has(stone); !slices.Equal(got, want) || e != api.OK {
		t.Fatalf("stone %d has %v, error %d; want %v", stone, got, e, want)
	}
}

// wantText fails unless Read gives this text.
func wantText(t *testing.T, r *replica.Replica, stone int, want string) {
	t.Helper()
	if got, ok, e := r.Read(stone); got != want || !ok || e != api.OK {
		t.Fatalf("stone %d has the note %q, %v, error %d; want %q", stone, got, ok, e, want)
	}
}

// wantNoText fails unless Read tells, with this error or OK, that there is no note.
func wantNoText(t *testing.T, r *replica.Replica, stone int, want api.Errno) {
	t.Helper()
	if got, ok, e := r.Read(stone); got != "" || ok || e != want {
		t.Fatalf("stone %d has the note %q, %v, error %d; want none, error %d", stone, got, ok, e, want)
	}
}

func wantState(t *testing.T, r *replica.Replica, want api.State) {
	t.Helper()
	if got := r.State(); !same(got, want) {
		t.Fatalf("state %v; want %v", got, want)
	}
}

// wantMerged fails unless Merge of both, in both orders, gives this state.
func wantMerged(t *testing.T, a, b, want api.State) {
	t.Helper()
	one, oneE := replica.Merge(a, b)
	two, twoE := replica.Merge(b, a)
	if !same(one, want) || !same(two, want) || oneE != api.OK || twoE != api.OK {
		t.Fatalf("%v with %v: %v, error %d, and %v, error %d; want %v", a, b, one, oneE, two, twoE, want)
	}
}

// wantApart fails unless Merge and Covers of both, in both orders, give this error, and
// nothing else.
func wantApart(t *testing.T, a, b api.State, want api.Errno) {
	t.Helper()
	for range 2 {
		m, e := replica.Merge(a, b)
		yes, f := replica.Covers(a, b)
		if e != want || f != want || yes || !isZero(m) {
			t.Fatalf("%v with %v: %v, error %d; covers: %v, error %d; want error %d", a, b, m, e, yes, f, want)
		}
		a, b = b, a
	}
}

func isZero(s api.State) bool {
	return len(s.Seen)+len(s.Tags)+len(s.Notes)+len(s.Rights)+len(s.Used) == 0
}

// dice gives numbers that are always the same ones.
type dice uint64

// next is a number from 0 to n - 1.
func (d *dice) next(n int) int {
	*d = *d*6364136223846793005 + 1442695040888963407
	return int(*d>>33) % n
}

// some is one of a list.
func (d *dice) some(l ...int) int { return l[d.next(len(l))] }

// text is one of a list.
func (d *dice) text(l ...string) string { return l[d.next(len(l))] }

// odd is mostly usual, and now and then any number at all.
func (d *dice) odd(usual int) int {
	if d.next(50) > 0 {
		return usual
	}
	return d.some(anyInts()...)
}
