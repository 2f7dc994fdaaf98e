package house_test

import (
	"fmt"
	"strings"
	"testing"

	"kimberlite/api"
	"kimberlite/desk"
	"kimberlite/house"
)

// P10.8: money.

func balances(h *house.House) []int {
	var l []int
	for account := range 8 {
		l = append(l, number(h.Exec(fmt.Sprint("balance ", account))))
	}
	return l
}

func wantBalances(t *testing.T, h *house.House, want ...int) {
	t.Helper()
	if got := balances(h); words(got...) != words(want...) {
		t.Fatalf("balances %v; want %v", got, want)
	}
}

// P10.8: what is moved, and the limits of it.
func TestMove(t *testing.T) {
	h := house.New()
	want(t, h, "move 0 7 1", "0 0", "move 7 1 1073741824", "0 0", "move 3 3 5", "0 0")
	wantBalances(t, h, -1, 1073741824, 0, 0, 0, 0, 0, -1073741823)
	wantRefused(t, h, api.ErrArg, "move 8 1 1", "move -1 1 1", "move 1 8 1", "move 1 -1 1", "move 1 2 0", "move 1 2 -1", "move 1 2 1073741825", "move 1 2 "+maxNumber, "move "+maxNumber+" 1 1",
		"move 1 2 3 1 2 0", "move 1 2 3 8 2 3 1 2 3", "move 0 0 0", "move 1 2 3 1 2 3 1 2 3 1 2 3 1 2 3 1 9 3")
	wantBalances(t, h, -1, 1073741824, 0, 0, 0, 0, 0, -1073741823)
	want(t, h, "move 1 2 3 4 5", "? line", "move 1 2 3 4 5 6 7 1 9", "0 1 2 0")
	wantBalances(t, h, -1, 1073741830, 3, 0, -6, 6, 0, -1073741832)
}

// P10.8: clerks who are in each other's way.
func TestMoveAtOnce(t *testing.T) {
	for _, c := range []struct {
		transfers, reply string
		balances         []int
	}{
		{"0 1 5 0 2 7", "", []int{-12, 5, 7, 0, 0, 0, 0, 0}},
		{"0 1 5 1 0 7", "", []int{2, -2, 0, 0, 0, 0, 0, 0}},
		{"1 1 5 1 1 7 1 2 1", "", []int{0, -1, 1, 0, 0, 0, 0, 0}},
		{"0 1 1 1 2 1 2 3 1 3 4 1 4 5 1 5 0 1", "", []int{0, 0, 0, 0, 0, 0, 0, 0}},
		{"7 6 1 6 5 2 5 4 4 4 3 8 3 2 16 2 1 32", "", []int{0, 32, -16, -8, -4, -2, -1, -1}},
		{"0 1 1 0 1 1 0 1 1 0 1 1 0 1 1 0 1 1", "", []int{-6, 6, 0, 0, 0, 0, 0, 0}},
	} {
		h := house.New()
		var scripts [][]api.Op
		n := numbers(strings.Fields(c.transfers))
		for i := 0; i < len(n); i += 3 {
			scripts = append(scripts, []api.Op{{What: api.OpAdd, Item: n[i], Value: -n[i+2]}, {What: api.OpAdd, Item: n[i+1], Value: n[i+2]}})
		}
		o, _ := desk.Play(make([]int, 8), scripts, nil)
		want(t, h, "move "+c.transfers, words(append(o.Order, o.Deaths)...))
		wantBalances(t, h, c.balances...)
	}
	// Two who add to one account read it first: one of them dies, and begins anew.
	want(t, house.New(), "move 0 1 500 1 0 200", "0 1 1", "move 0 1 1 2 3 1", "0 1 0", "move 0 1 1 0 1 1 0 1 1", "0 1 2 3")
}

// P10.8: accounts at the ends of their limits.
func TestMoveRange(t *testing.T) {
	h := richest(t)
	want(t, h, "balance 0", fmt.Sprint(-maxValue), "balance 1", fmt.Sprint(maxValue))
	wantRefused(t, h, api.ErrRange, "move 0 2 1", "move 2 1 1", "move 0 1 1", "move 0 0 5", "move 2 3 5 0 3 1", "move 2 3 5 3 1 1", "move 2 3 1 3 4 1 4 5 1 5 6 1 6 7 1 0 2 1")
	wantRefused(t, h, api.ErrArg, "move 0 2 1 8 1 1", "move 2 1 1 1 1 0")
	want(t, h, "move 1 1 5", "0 0", "move 1 0 1", "0 0", "move 0 1 1", "0 0", "move 2 3 1", "0 0")
	wantBalances(t, h, -maxValue, maxValue, -1, 1, 0, 0, 0, 0)
}
