package replica_test

import (
	"testing"

	"kimberlite/api"
	"kimberlite/replica"
)

// wantStock fails unless so much of a stock is free and left.
func wantStock(t *testing.T, r *replica.Replica, stock, free, left int) {
	t.Helper()
	wantNumber(t, free)(r.Free(stock))
	wantNumber(t, left)(r.Left(stock))
}

// P8.4: each adds to the amount that is there.
func TestStocks(t *testing.T) {
	r := begin(t, 2)
	wantStock(t, r, 5, 0, 0)
	wantErrno(t, api.OK, r.Make(5, 10))
	wantErrno(t, api.OK, r.Make(5, 3))
	wantStock(t, r, 5, 13, 13)
	wantErrno(t, api.OK, r.Give(5, 7, 4))
	wantErrno(t, api.OK, r.Give(5, 0, 1))
	wantErrno(t, api.OK, r.Give(5, 7, 2))
	wantStock(t, r, 5, 6, 13)
	wantErrno(t, api.OK, r.Take(5, 1))
	wantErrno(t, api.OK, r.Take(5, 3))
	wantStock(t, r, 5, 2, 9)
	wantErrno(t, api.OK, r.Make(0, 1))
	wantStock(t, r, 0, 1, 1)
	wantStock(t, r, 4, 0, 0)
	wantStock(t, r, 6, 0, 0)
	want := api.State{Seen: seen(), Rights: []api.Right{right(0, 2, 2, 1), right(5, 2, 0, 1), right(5, 2, 2, 13), right(5, 2, 7, 6)},
		Used: []api.Used{used(5, 2, 4)}}
	wantState(t, r, want)
	wantErrno(t, api.ErrFunds, r.Take(5, 3))
	wantErrno(t, api.ErrFunds, r.Give(5, 1, 3))
	wantState(t, r, want)
	wantErrno(t, api.OK, r.Give(5, 1, 2))
	wantErrno(t, api.ErrFunds, r.Take(5, 1))
	wantStock(t, r, 5, 0, 9)
}

// P8.4: what is no stock, no amount and no office to give to.
func TestStockArguments(t *testing.T) {
	r := load(t, 7, fullState())
	for _, n := range anyInts() {
		free, e := r.Free(n)
		left, f := r.Left(n)
		if want := isStock(n); (e == api.OK) != want || (f == api.OK) != want || !want && (free != 0 || left != 0 || e != api.ErrArg || f != api.ErrArg) {
			t.Fatalf("Free(%d): %d, error %d; Left: %d, error %d", n, free, e, left, f)
		}
		for _, m := range anyInts() {
			made, taken := api.ErrArg, api.ErrArg
			if isStock(n) && isAmount(m) {
				made, taken = api.OK, api.ErrFunds
				if rightOf(fullState(), n, 7, 7)+m > maxCount {
					made = api.ErrRange
				}
				if m <= freeOf(fullState(), n, 7) {
					taken = api.OK
				}
			}
			wantErrno(t, made, r.Copy().Make(n, m))
			wantErrno(t, taken, r.Copy().Take(n, m))
		}
	}
	for _, to := range anyInts() {
		for office := range 8 {
			r := begin(t, office)
			wantErrno(t, api.OK, r.Make(3, 5))
			for _, amount := range []int{minInt, -1, 0, 1, 5, 6, maxCount, maxCount + 1, maxInt} {
				want := api.ErrArg
				if isOffice(to) && to != office && isAmount(amount) {
					want = api.OK
					if amount > 5 {
						want = api.ErrFunds
					}
				}
				wantErrno(t, want, r.Copy().Give(3, to, amount))
			}
			wantErrno(t, api.ErrArg, r.Give(8, (office+1)%8, 1))
			wantErrno(t, api.ErrArg, r.Give(-1, (office+1)%8, 1))
		}
	}
}

// P8.4: no amount above MaxCount, though more is free; ErrFunds comes first.
func TestStockRange(t *testing.T) {
	s := api.State{Seen: seen(), Rights: []api.Right{right(0, 0, 0, maxCount), right(0, 0, 1, maxCount-1), right(0, 1, 1, maxCount),
		right(0, 1, 2, 1), right(0, 2, 0, maxCount), right(0, 2, 2, maxCount)}, Used: []api.Used{used(0, 0, maxCount-2)}}
	if !isRight(s) {
		t.Fatal("not right")
	}
	r := load(t, 0, s)
	wantStock(t, r, 0, 3, 2*maxCount+2)
	wantErrno(t, api.ErrRange, r.Make(0, 1))
	wantErrno(t, api.ErrRange, r.Make(0, maxCount))
	wantErrno(t, api.ErrRange, r.Give(0, 1, 2))
	wantErrno(t, api.ErrRange, r.Give(0, 1, 3))
	wantErrno(t, api.ErrFunds, r.Give(0, 1, 4))
	wantErrno(t, api.ErrFunds, r.Give(0, 1, maxCount))
	wantErrno(t, api.ErrRange, r.Take(0, 3))
	wantErrno(t, api.ErrFunds, r.Take(0, 4))
	wantErrno(t, api.ErrArg, r.Give(0, 0, maxCount))
	wantState(t, r, s)
	wantErrno(t, api.OK, r.Give(0, 1, 1))
	wantErrno(t, api.OK, r.Take(0, 2))
	wantStock(t, r, 0, 0, 2*maxCount)
	wantErrno(t, api.ErrFunds, r.Take(0, 1))
	wantErrno(t, api.OK, r.Make(1, maxCount-1))
	wantErrno(t, api.OK, r.Make(1, 1))
	wantErrno(t, api.ErrRange, r.Make(1, 1))
	wantErrno(t, api.OK, r.Give(1, 3, maxCount))
	wantStock(t, r, 1, 0, maxCount)
}

// P8.4: Free and Left as any replica knows them; and all of both.
func TestFreeAndLeft(t *testing.T) {
	d := dice(84)
	states := []api.State{fullState()}
	for range 300 {
		states = append(states, someState(&d))
	}
	for _, s := range states {
		for office := range 8 {
			r := load(t, office, s)
			for stock := range 8 {
				wantStock(t, r, stock, freeOf(s, stock, office), leftOf(s, stock))
			}
		}
	}
	for stock := range 8 {
		s := api.State{Seen: seen()}
		for from := range 8 {
			for to := range 8 {
				s.Rights = append(s.Rights, right(stock, from, to, maxCount))
			}
		}
		wantStock(t, load(t, stock, s), stock, maxCount, 8*maxCount)
	}
}

// Example 2 of the chapter.
func TestStockExample(t *testing.T) {
	zero, one := begin(t, 0), begin(t, 1)
	wantErrno(t, api.OK, zero.Make(0, 10))
	wantErrno(t, api.OK, zero.Give(0, 1, 4))
	wantErrno(t, api.ErrFunds, one.Take(0, 3))
	wantErrno(t, api.OK, one.Sync(zero.State()))
	wantErrno(t, api.OK, one.Take(0, 3))
	wantErrno(t, api.OK, zero.Take(0, 6))
	wantErrno(t, api.OK, zero.Sync(one.State()))
	wantErrno(t, api.OK, one.Sync(zero.State()))
	wantStock(t, zero, 0, 0, 1)
	wantStock(t, one, 0, 1, 1)
	wantErrno(t, api.ErrFunds, zero.Take(0, 1))
	wantErrno(t, api.OK, one.Take(0, 1))
}
