package desk_test

import (
	"slices"
	"strconv"
	"strings"
	"testing"

	"kimberlite/api"
	"kimberlite/desk"
)

func reads(item int) api.Op       { return api.Op{What: api.OpRead, Item: item} }
func writes(item, n int) api.Op   { return api.Op{What: api.OpWrite, Item: item, Value: n} }
func adds(item, n int) api.Op     { return api.Op{What: api.OpAdd, Item: item, Value: n} }
func script(l ...api.Op) []api.Op { return l }

// Example 2 of the chapter.
func TestPlayTwoAdd(t *testing.T) {
	scripts := [][]api.Op{script(adds(0, 5)), script(adds(0, 7))}
	want := api.Outcome{Values: []int{12}, Order: []int{0, 1}, Deaths: 1, Reads: [][]int{{0}, {5}}}
	wantPlayed(t, []int{0}, scripts, []int{0, 1, 0, 1, 0, 1}, want, api.OK)
	// Without turns given it is the same, since these are in their order.
	wantPlayed(t, []int{0}, scripts, nil, want, api.OK)
	// One after the other, nobody waits.
	want.Deaths = 0
	wantPlayed(t, []int{0}, scripts, []int{0, 0, 0, 0}, want, api.OK)
	// With the turns of both exchanged, clerk 0 is the younger one, and dies.
	want = api.Outcome{Values: []int{12}, Order: []int{1, 0}, Deaths: 1, Reads: [][]int{{7}, {0}}}
	wantPlayed(t, []int{0}, scripts, []int{1, 0, 1, 0, 1, 0}, want, api.OK)
	want.Deaths = 0
	wantPlayed(t, []int{0}, scripts, []int{1, 1, 1, 1}, want, api.OK)
}

// P9.5: one clerk, and each kind of step.
func TestPlayAlone(t *testing.T) {
	steps := script(reads(1), writes(0, 4), adds(0, -6), reads(0), adds(2, maxValue), writes(2, -maxValue), reads(2))
	want := api.Outcome{Values: []int{-2, 8, -maxValue}, Order: []int{0}, Reads: [][]int{{8, 4, -2, 0, -maxValue}}}
	wantPlayed(t, []int{7, 8, 0}, [][]api.Op{steps}, nil, want, api.OK)
	wantPlayed(t, []int{7, 8, 0}, [][]api.Op{steps}, slices.Repeat([]int{0}, 512), want, api.OK)
}

// P9.5: who has nothing to do begins, and commits.
func TestPlayNothing(t *testing.T) {
	wantPlayed(t, []int{3}, [][]api.Op{nil}, nil, api.Outcome{Values: []int{3}, Order: []int{0}, Reads: [][]int{nil}}, api.OK)
	idle := [][]api.Op{nil, {}, nil}
	want := api.Outcome{Values: []int{3}, Order: []int{0, 1, 2}, Reads: [][]int{nil, nil, nil}}
	wantPlayed(t, []int{3}, idle, nil, want, api.OK)
	want.Order = []int{2, 1, 0}
	wantPlayed(t, []int{3}, idle, []int{2, 1, 2, 1}, want, api.OK)
	// Behind the given turns it goes on with the number of all turns so far.
	want.Order = []int{0, 1, 2}
	wantPlayed(t, []int{3}, idle, []int{0, 2, 1}, want, api.OK)
	want.Order = []int{2, 1, 0}
	wantPlayed(t, []int{3}, idle, []int{2, 2, 0, 1}, want, api.OK)
}

// P9.5: who waits does nothing in their turn; when granted, the step is done, and the
// same turn does the next one.
func TestPlayWaits(t *testing.T) {
	scripts := [][]api.Op{script(writes(0, 1), reads(1)), script(reads(0), reads(1), writes(2, 9))}
	// 0 begins and writes; 1 begins and waits for it, and has turns without use; 0
	// reads and commits; the next turn of 1 reads item 1, one more writes.
	turns := []int{0, 0, 1, 1, 1, 1, 0, 0, 1, 1, 1}
	want := api.Outcome{Values: []int{1, 5, 9}, Order: []int{0, 1}, Reads: [][]int{{5}, {1, 5}}}
	wantPlayed(t, []int{0, 5, 0}, scripts, turns, want, api.OK)
	// A third one reads item 2 in the turn between: 1 has written it by then, but not
	// if it had one turn less.
	scripts = append(scripts, script(writes(2, 8)))
	want.Order, want.Reads = []int{0, 1, 2}, [][]int{{5}, {1, 5}, nil}
	want.Values = []int{1, 5, 8}
	wantPlayed(t, []int{0, 5, 0}, scripts, append(turns[:10:10], 2, 2, 2, 2, 1, 2), want, api.OK)
	want.Order, want.Values = []int{0, 2, 1}, []int{1, 5, 9}
	wantPlayed(t, []int{0, 5, 0}, scripts, append(turns[:9:9], 2, 2, 2, 2, 1, 2), want, api.OK)
}

// P9.5: who has died begins anew from the first step on, and reads anew.
func TestPlayAnew(t *testing.T) {
	scripts := [][]api.Op{script(writes(0, 7), writes(1, 8)), script(reads(2), reads(1), adds(3, 1), reads(0))}
	// 1 has read items 2, 1 and 3 when 0 waits for item 1; then it asks for item 0.
	turns := []int{0, 1, 0, 1, 1, 1, 1, 0, 1}
	want := api.Outcome{Values: []int{7, 8, 3, 5}, Order: []int{0, 1}, Deaths: 1, Reads: [][]int{nil, {3, 8, 4, 7}}}
	wantPlayed(t, []int{1, 2, 3, 4}, scripts, turns, want, api.OK)
	// With 1 the older one, 0 dies, though it does nothing then but wait.
	want = api.Outcome{Values: []int{7, 8, 3, 5}, Order: []int{1, 0}, Deaths: 1, Reads: [][]int{nil, {3, 2, 4, 1}}}
	wantPlayed(t, []int{1, 2, 3, 4}, scripts, []int{1, 0, 0, 1, 1, 1, 1, 0, 1}, want, api.OK)
	// A turn begins a transaction, and the next one does the first step: meanwhile 2
	// can write what 0 would have read.
	scripts = [][]api.Op{script(reads(0), reads(1)), script(reads(1), writes(0, 3)), script(writes(0, 6))}
	want = api.Outcome{Values: []int{3, 20}, Order: []int{2, 0, 1}, Reads: [][]int{{6, 20}, {20}, nil}}
	wantPlayed(t, []int{10, 20}, scripts, []int{0, 2, 2, 2, 0, 0, 0}, want, api.OK)
}

// P9.5: a read of an OpAdd that had to wait is what is added to.
func TestPlayAddWaits(t *testing.T) {
	scripts := [][]api.Op{script(writes(0, 100)), script(adds(0, 5))}
	want := api.Outcome{Values: []int{105}, Order: []int{0, 1}, Reads: [][]int{nil, {100}}}
	wantPlayed(t, []int{1}, scripts, []int{0, 0, 1, 1, 0, 1, 1, 1}, want, api.OK)
}

// P9.5: at all limits.
func TestPlayMost(t *testing.T) {
	values := make([]int, maxItems)
	scripts := make([][]api.Op, 6)
	var turns []int
	for c := range scripts {
		for i := range 12 {
			scripts[c] = append(scripts[c], adds((c*5+i)%maxItems, 1+c*100))
		}
	}
	for i := range 512 {
		turns = append(turns, i*i/3%6)
	}
	want, e := played(values, scripts, turns)
	if e != api.OK || want.Deaths < 10 {
		t.Fatalf("%v, error %d", want, e)
	}
	wantPlayed(t, values, scripts, turns, want, api.OK)
	want, e = played(values, scripts, nil)
	wantPlayed(t, values, scripts, nil, want, e)
}

// P9.5: which error comes first.
func TestPlayErrors(t *testing.T) {
	fine := [][]api.Op{script(adds(0, 1)), nil}
	manyItems, manyClerks := make([]int, maxItems+1), make([][]api.Op, 7)
	longScript := [][]api.Op{nil, slices.Repeat(script(reads(0)), 13)}
	longTurns := make([]int, 513)
	one := func(op api.Op) [][]api.Op { return [][]api.Op{nil, script(reads(0), op)} }
	for i, c := range []struct {
		values  []int
		scripts [][]api.Op
		turns   []int
		want    api.Errno
	}{
		{nil, fine, nil, api.ErrArg}, {manyItems, nil, nil, api.ErrLimit}, {[]int{maxValue + 1}, fine, nil, api.ErrArg}, {[]int{0, -maxValue - 1}, fine, nil, api.ErrArg},
		{[]int{0}, manyClerks, nil, api.ErrLimit}, {[]int{0}, longScript, nil, api.ErrLimit}, {[]int{0}, fine, longTurns, api.ErrLimit},
		{[]int{0}, nil, nil, api.ErrArg}, {[]int{0}, [][]api.Op{}, []int{0}, api.ErrArg},
		{[]int{0}, fine, []int{0, 1, 2}, api.ErrArg}, {[]int{0}, fine, []int{-1}, api.ErrArg}, {[]int{0}, fine, []int{minInt}, api.ErrArg}, {[]int{0}, fine, []int{maxInt}, api.ErrArg},
		{[]int{0}, fine, append(make([]int, 511), 2), api.ErrArg},
		{[]int{0}, one(api.Op{}), nil, api.ErrArg}, {[]int{0}, one(api.Op{What: 4}), nil, api.ErrArg}, {[]int{0}, one(api.Op{What: -1}), nil, api.ErrArg},
		{[]int{0}, one(api.Op{What: minInt}), nil, api.ErrArg}, {[]int{0}, one(api.Op{What: maxInt}), nil, api.ErrArg}, {[]int{0}, one(api.Op{What: 1<<32 + 1}), nil, api.ErrArg},
		{[]int{0}, one(reads(1)), nil, api.ErrArg}, {[]int{0}, one(reads(-1)), nil, api.ErrArg}, {[]int{0}, one(writes(1, 0)), nil, api.ErrArg}, {[]int{0}, one(adds(minInt, 0)), nil, api.ErrArg},
		{[]int{0}, one(writes(0, maxValue+1)), nil, api.ErrArg}, {[]int{0}, one(writes(0, minInt)), nil, api.ErrArg}, {[]int{0}, one(adds(0, -maxValue-1)), nil, api.ErrArg}, {[]int{0}, one(adds(0, maxInt)), nil, api.ErrArg},
		// Those of New, then ErrLimit, then ErrArg.
		{nil, manyClerks, longTurns, api.ErrArg}, {[]int{maxInt}, longScript, nil, api.ErrArg}, {manyItems, one(api.Op{}), nil, api.ErrLimit},
		{[]int{0}, nil, longTurns, api.ErrLimit}, {[]int{0}, [][]api.Op{script(reads(5)), longScript[1]}, nil, api.ErrLimit}, {[]int{0}, one(api.Op{}), longTurns, api.ErrLimit},
		{[]int{0}, manyClerks, []int{-1}, api.ErrLimit}, {[]int{0}, longScript, []int{-1}, api.ErrLimit}, {[]int{0}, fine, append(longTurns[1:], -1, 5), api.ErrLimit},
		// Those of the arguments before those of the play.
		{[]int{maxValue}, fine, []int{0, 0, 0, 2}, api.ErrArg}, {[]int{maxValue}, [][]api.Op{script(adds(0, 1)), script(reads(1))}, nil, api.ErrArg},
		{[]int{maxValue}, fine, nil, api.ErrRange},
	} {
		if got, e := desk.Play(c.values, c.scripts, c.turns); e != c.want || !sameOutcome(got, api.Outcome{}) {
			t.Errorf("case %d: %v, error %d; want error %d", i, got, e, c.want)
		}
	}
	// The value of an OpRead plays no part.
	for _, n := range anyInts() {
		op := api.Op{What: api.OpRead, Item: 0, Value: n}
		wantPlayed(t, []int{3}, [][]api.Op{script(op)}, nil, api.Outcome{Values: []int{3}, Order: []int{0}, Reads: [][]int{{3}}}, api.OK)
	}
}

// P9.5: a sum at and beyond the limits, when it is to be written.
func TestPlayRange(t *testing.T) {
	for _, sign := range []int{1, -1} {
		top := sign * maxValue
		wantPlayed(t, []int{top - sign}, [][]api.Op{script(adds(0, sign))}, nil, api.Outcome{Values: []int{top}, Order: []int{0}, Reads: [][]int{{top - sign}}}, api.OK)
		wantPlayed(t, []int{top}, [][]api.Op{script(adds(0, -top))}, nil, api.Outcome{Values: []int{0}, Order: []int{0}, Reads: [][]int{{top}}}, api.OK)
		wantPlayed(t, []int{top}, [][]api.Op{script(adds(0, sign))}, nil, api.Outcome{}, api.ErrRange)
		wantPlayed(t, []int{top}, [][]api.Op{script(adds(0, top))}, nil, api.Outcome{}, api.ErrRange)
		wantPlayed(t, []int{0, top}, [][]api.Op{script(writes(0, 5), adds(1, -sign), adds(1, sign), adds(1, sign))}, nil, api.Outcome{}, api.ErrRange)
		// It depends on who comes first; and who has committed by then changes nothing.
		scripts := [][]api.Op{script(adds(0, sign)), script(adds(0, -sign)), script(reads(0))}
		wantPlayed(t, []int{top}, scripts, []int{0, 1, 1, 1, 1, 0}, api.Outcome{Values: []int{top}, Order: []int{1, 0, 2}, Reads: [][]int{{top - sign}, {top}, {top}}}, api.OK)
		wantPlayed(t, []int{top}, scripts, []int{2, 2, 2, 1, 0, 0, 1, 0}, api.Outcome{}, api.ErrRange)
		// It comes even if the lock could not be had at once, but not from who waits
		// for the read.
		wantPlayed(t, []int{top}, scripts[:2], []int{0, 1, 0, 1, 0}, api.Outcome{}, api.ErrRange)
		wantPlayed(t, []int{top, 0}, [][]api.Op{script(adds(0, sign)), script(writes(0, 0), reads(1))}, []int{1, 1, 0, 0, 0, 0}, api.Outcome{Values: []int{sign, 0}, Order: []int{1, 0}, Reads: [][]int{{0}, {0}}}, api.OK)
	}
}

// P9.5: clerks that stop in the middle, each at another place, when one meets an error.
func TestPlayStops(t *testing.T) {
	scripts := [][]api.Op{script(writes(0, 1)), script(reads(0)), nil, script(writes(1, 2), reads(1)), script(adds(2, 1)), nil}
	// 0 holds item 0, 1 waits for it, 2 has committed, 3 has written, 5 has not begun.
	wantPlayed(t, []int{0, 0, maxValue}, scripts, []int{0, 0, 1, 1, 2, 2, 3, 3, 4, 4, 4, 5}, api.Outcome{}, api.ErrRange)
	for n := range 30 {
		turns := slices.Repeat([]int{0, 1, 3, 2}, 8)[:n]
		want, e := played([]int{0, 0, maxValue}, scripts, turns)
		wantErrno(t, api.ErrRange, e)
		wantPlayed(t, []int{0, 0, maxValue}, scripts, turns, want, e)
	}
}

// steps are scripts, told by words of a letter, r, w or a, and an item.
func steps(texts ...string) [][]api.Op {
	var l [][]api.Op
	for _, text := range texts {
		var ops []api.Op
		for _, word := range strings.Fields(text) {
			item, _ := strconv.Atoi(word[1:])
			ops = append(ops, api.Op{What: 1 + strings.IndexByte("rwa", word[0]), Item: item, Value: 1})
		}
		l = append(l, ops)
	}
	return l
}

// P9.5: clerks who die so often that another transaction would be one too many.
func TestPlayFull(t *testing.T) {
	scripts := steps(
		"a6 r2 r1 w1 a2 a8 a6 a3 a10 a9 a5 a7",
		"a2 a2 a8 a4 a3 a10 a9 a5 a7 a9 a0 a6",
		"r2 w1 a1 a8 a4 a3 a10 a9 a5 a7 a2 a0",
		"r5 r10 r0 w8 a3 a3 a9 a9 a7 a5 a0 w2",
		"r0 r7 r9 r3 a0 r5 a10 a0 a5 a7 w2 r9",
		"r7 r8 a9 a9 r8 w7 a4 a0 a4 a10 a5 w2",
	)
	values := make([]int, 11)
	wantPlayed(t, values, scripts, nil, api.Outcome{}, api.ErrFull)
	// With another step in one place, there are just as many as there may be.
	scripts[2][11] = reads(0)
	want, e := played(values, scripts, nil)
	if want.Deaths != maxTxns-len(scripts) || e != api.OK {
		t.Fatalf("%d deaths, error %d", want.Deaths, e)
	}
	wantPlayed(t, values, scripts, nil, want, api.OK)
	// What is met first decides.
	values[8] = maxValue
	wantPlayed(t, values, scripts, nil, api.Outcome{}, api.ErrRange)
}
