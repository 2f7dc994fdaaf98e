package tender_test

import (
	"slices"
	"testing"

	"kimberlite/api"
	"kimberlite/tender"
)

const (
	maxInt    = int(^uint(0) >> 1)
	minInt    = -maxInt - 1
	maxLots   = api.MaxLots
	maxOffers = api.MaxOffers
	maxBuyer  = api.MaxBuyer
	maxPrice  = api.MaxPrice
	maxOwn    = 4 // that one buyer shows
)

// of makes offers of a buyer, lots and a price: three numbers each.
func of(numbers ...int) []api.Offer {
	var l []api.Offer
	for i := 0; i+2 < len(numbers); i += 3 {
		l = append(l, api.Offer{Buyer: numbers[i], Lots: numbers[i+1], Price: numbers[i+2]})
	}
	return l
}

// anyInts are numbers just at and beyond all limits, and far beyond them.
func anyInts() []int {
	l := []int{minInt, minInt + 1, -1 << 33, -1 << 32, -maxPrice - 1, -maxPrice, -64, -8, -2, -1}
	l = append(l, 0, 1, 2, 3, 4, 5, 6, 7, 8, 9, 11, 12, 13, 31, 32, 62, 63, 64, 65, 4094, 4095, 4096, 4097, 8191)
	return append(l, maxPrice-1, maxPrice, maxPrice+1, 1<<32, 1<<32+1, 1<<32+8, 1<<33, maxInt-1, maxInt)
}

// isBuyer is what the chapter asks of a buyer.
func isBuyer(b int) bool { return b >= 0 && b <= 7 }

// isValid is what the chapter calls valid for n lots, which are from 1 to 12.
func isValid(n int, o api.Offer) bool {
	sets := 1
	for range n {
		sets *= 2
	}
	return isBuyer(o.Buyer) && o.Lots >= 1 && o.Lots <= sets-1 && o.Price >= 1 && o.Price <= 1<<30
}

// clash reports whether two offers have a lot in common, or are of one buyer.
func clash(a, b api.Offer) bool { return a.Buyer == b.Buyer || a.Lots&b.Lots != 0 }

// choices are all choices of a list, each as a list of 0 and 1.
func choices(l []api.Offer) [][]int {
	all := [][]int{{}}
	for _, o := range l {
		var longer [][]int
		for _, c := range all {
			longer = append(longer, append(slices.Clone(c), 0))
			if !slices.ContainsFunc(taken(c), func(i int) bool { return clash(l[i], o) }) {
				longer = append(longer, append(slices.Clone(c), 1))
			}
		}
		all = longer
	}
	return all
}

// taken is the indexes of the ones.
func taken(choice []int) []int {
	var l []int
	for i, n := range choice {
		if n == 1 {
			l = append(l, i)
		}
	}
	return l
}

// sumOf is the sum of the Prices of the offers with these indexes.
func sumOf(l []api.Offer, indexes []int) int {
	sum := 0
	for _, i := range indexes {
		sum += l[i].Price
	}
	return sum
}

// bestOf is what P5.1 says of offers.
func bestOf(l []api.Offer) ([]int, int) {
	var best []int
	worth := -1
	for _, c := range choices(l) {
		n := sumOf(l, taken(c))
		if n > worth || n == worth && slices.Compare(c, best) > 0 {
			best, worth = c, n
		}
	}
	return taken(best), worth
}

// others is the offers of all other buyers.
func others(l []api.Offer, buyer int) []api.Offer {
	return slices.DeleteFunc(slices.Clone(l), func(o api.Offer) bool { return o.Buyer == buyer })
}

// awardOf is what P5.2 says of offers.
func awardOf(l []api.Offer) api.Award {
	took, worth := bestOf(l)
	a := api.Award{Taken: took, Worth: worth}
	for _, i := range took {
		_, without := bestOf(others(l, l[i].Buyer))
		rest := slices.DeleteFunc(slices.Clone(took), func(j int) bool { return j == i })
		a.Pays = append(a.Pays, without-sumOf(l, rest))
	}
	return a
}

// gainOf is what P5.3 says of what was awarded.
func gainOf(l []api.Offer, a api.Award, buyer int, worth []int) int {
	for k, i := range a.Taken {
		if l[i].Buyer == buyer {
			return worth[l[i].Lots] - a.Pays[k]
		}
	}
	return 0
}

// worthOf is what each set of n lots is worth to a buyer for whom the offers of a
// list are the truth: the greatest Price of one within the set, or 0.
func worthOf(n int, l []api.Offer) []int {
	worth := make([]int, 1<<n)
	for set := range worth {
		for _, o := range l {
			if o.Lots&^set == 0 {
				worth[set] = max(worth[set], o.Price)
			}
		}
	}
	return worth
}

// same reports whether two awards are the same one.
func same(a, b api.Award) bool {
	return slices.Equal(a.Taken, b.Taken) && slices.Equal(a.Pays, b.Pays) && a.Worth == b.Worth
}

// wantBest fails unless Best gave just this.
func wantBest(t *testing.T, worth int, want ...int) func([]int, int, api.Errno) {
	return func(got []int, n int, e api.Errno) {
		t.Helper()
		if !slices.Equal(got, want) || n != worth || e != api.OK {
			t.Fatalf("got %v, %d, error %d; want %v, %d", got, n, e, want, worth)
		}
	}
}

// wantAward fails unless Decide gave just this.
func wantAward(t *testing.T, want api.Award) func(api.Award, api.Errno) {
	return func(got api.Award, e api.Errno) {
		t.Helper()
		if !same(got, want) || e != api.OK {
			t.Fatalf("got %v, error %d; want %v", got, e, want)
		}
	}
}

// wantGain fails unless Gain gave just this.
func wantGain(t *testing.T, want int, wantE api.Errno) func(int, api.Errno) {
	return func(got int, e api.Errno) {
		t.Helper()
		if got != want || e != wantE {
			t.Fatalf("got %d, error %d; want %d, error %d", got, e, want, wantE)
		}
	}
}

// wantErrno fails unless a call gave this error.
func wantErrno(t *testing.T, want, got api.Errno) {
	t.Helper()
	if got != want {
		t.Fatalf("error %d; want %d", got, want)
	}
}

// wantDecided fails unless Best and Decide say of a list what the chapter says.
func wantDecided(t *testing.T, n int, l []api.Offer) {
	t.Helper()
	want := awardOf(l)
	took, worth, e := tender.Best(n, l)
	if !slices.Equal(took, want.Taken) || worth != want.Worth || e != api.OK {
		t.Fatalf("%d lots, %v: Best gives %v, %d, error %d; want %v", n, l, took, worth, e, want)
	}
	if got, e := tender.Decide(n, l); !same(got, want) || e != api.OK {
		t.Fatalf("%d lots, %v: Decide gives %v, error %d; want %v", n, l, got, e, want)
	}
}

// wantRefused fails unless Best, Decide and Gain give this error and nothing else,
// whatever else is asked of Gain.
func wantRefused(t *testing.T, want api.Errno, n int, l []api.Offer) {
	t.Helper()
	if took, worth, e := tender.Best(n, l); e != want || len(took) != 0 || worth != 0 {
		t.Fatalf("%d lots, %v: Best gives %v, %d, error %d; want error %d", n, l, took, worth, e, want)
	}
	if got, e := tender.Decide(n, l); e != want || !same(got, api.Award{}) {
		t.Fatalf("%d lots, %v: Decide gives %v, error %d; want error %d", n, l, got, e, want)
	}
	for _, buyer := range []int{0, -1, 8, minInt, maxInt} {
		for _, worth := range [][]int{nil, {minInt}, {0, 1}, {0, maxPrice + 1}, make([]int, 1<<maxLots)} {
			if got, e := tender.Gain(n, l, buyer, worth); e != want || got != 0 {
				t.Fatalf("%d lots, %v: Gain of %d gives %d, error %d; want error %d", n, l, buyer, got, e, want)
			}
		}
	}
}

// dice gives numbers that are always the same ones.
type dice uint64

// next is a number from 0 to n - 1.
func (d *dice) next(n int) int {
	*d = *d*6364136223846793005 + 1442695040888963407
	return int(*d>>33) % n
}

// lots is a set of lots of n, more often a small one.
func (d *dice) lots(n int) int {
	set := 1 + d.next(1<<n-1)
	if less := set & d.next(1<<n); less > 0 && d.next(4) > 0 {
		return less
	}
	return set
}

// price is a price up to most, or near the limit if most is 0.
func (d *dice) price(most int) int {
	if most == 0 {
		return maxPrice - d.next(3)
	}
	return 1 + d.next(most)
}

// offers are so many offers of buyers below buyers, for n lots.
func (d *dice) offers(count, buyers, n, most int) []api.Offer {
	var l []api.Offer
	for range count {
		l = append(l, api.Offer{Buyer: d.next(buyers), Lots: d.lots(n), Price: d.price(most)})
	}
	return l
}

// tenders calls f with lists of offers of all lengths, for few and for many lots,
// of few and of many buyers, with prices that are often the same and seldom.
func (d *dice) tenders(rounds int, f func(n int, l []api.Offer)) {
	for range rounds {
		n := 1 + d.next(maxLots)
		most := []int{0, 1, 2, 5, 100, maxPrice}[d.next(6)]
		f(n, d.offers(d.next(maxOffers+1), 1+d.next(maxBuyer+1), n, most))
	}
}
