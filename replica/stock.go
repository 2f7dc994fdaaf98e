package replica

import (
	"kimberlite/api"
)

// Make makes an amount of a stock.
func (r *Replica) Make(stock, amount int) api.Errno {
	if !r.isMade() {
		return api.ErrNil
	}
	if !isStock(stock) || !isAmount(amount) {
		return api.ErrArg
	}
	return r.give(stock, r.office, amount)
}

// Give gives another office an amount of a stock.
func (r *Replica) Give(stock, to, amount int) api.Errno {
	if !r.isMade() {
		return api.ErrNil
	}
	if !isStock(stock) || !isAmount(amount) || !isOffice(to) || to == r.office {
		return api.ErrArg
	}
	if amount > free(r.state)[stock][r.office] {
		return api.ErrFunds
	}
	return r.give(stock, to, amount)
}

// give adds an amount to what the office gave to another one, or made for itself.
func (r *Replica) give(stock, to, amount int) api.Errno {
	x := api.Right{Stock: stock, From: r.office, To: to}
	before, _ := rights().find(r.state.Rights, x)
	x.Amount = before.Amount + amount
	if !isAmount(x.Amount) {
		return api.ErrRange
	}
	r.state.Rights = rights().lay(r.state.Rights, x)
	return api.OK
}

// Take uses an amount of a stock.
func (r *Replica) Take(stock, amount int) api.Errno {
	if !r.isMade() {
		return api.ErrNil
	}
	if !isStock(stock) || !isAmount(amount) {
		return api.ErrArg
	}
	if amount > free(r.state)[stock][r.office] {
		return api.ErrFunds
	}
	x := api.Used{Stock: stock, Office: r.office}
	before, _ := used().find(r.state.Used, x)
	x.Amount = before.Amount + amount
	if !isAmount(x.Amount) {
		return api.ErrRange
	}
	r.state.Used = used().lay(r.state.Used, x)
	return api.OK
}

// Free returns how much of a stock the office may give and use.
func (r *Replica) Free(stock int) (int, api.Errno) {
	if !r.isMade() {
		return 0, api.ErrNil
	}
	if !isStock(stock) {
		return 0, api.ErrArg
	}
	return free(r.state)[stock][r.office], api.OK
}

// Left returns how much of a stock was made and not used, by all offices.
func (r *Replica) Left(stock int) (int, api.Errno) {
	if !r.isMade() {
		return 0, api.ErrNil
	}
	if !isStock(stock) {
		return 0, api.ErrArg
	}
	// What one office gives away another one gets: so all have together what is left.
	left := 0
	for _, amount := range free(r.state)[stock] {
		left += amount
	}
	return left, api.OK
}

// free returns how much of each stock each office may give and use.
func free(s api.State) [stocks][offices]int {
	var amounts [stocks][offices]int
	for _, x := range s.Rights {
		amounts[x.Stock][x.To] += x.Amount
		if x.From != x.To {
			amounts[x.Stock][x.From] -= x.Amount
		}
	}
	for _, x := range s.Used {
		amounts[x.Stock][x.Office] -= x.Amount
	}
	return amounts
}
