package clock_test

import (
	"math"
	"testing"

	"gavel/api"
	"gavel/clock"
)

// 7.1
func TestNew(t *testing.T) {
	for _, supply := range []int{1, 2, lot - 1, lot} {
		for _, start := range []int{0, 1, top - 1, top} {
			for _, step := range []int{1, 2, top - 1, top} {
				for _, bidders := range []int{1, 2, 15, 16} {
					a := newAuction(t, supply, start, step, bidders)
					wantTells(t, a, tells{round: 1, price: start, supply: supply})
					for who := -1; who <= 17; who++ {
						wantWants(t, a, who, 0, 0)
					}
					wantNoSale(t, a, api.ErrNone)
					bid(t, a, make([]int, bidders)...)
					wantBid(t, a, bidders, 0, api.ErrArg)
				}
			}
		}
	}
}

// 7.1
func TestNewRefuses(t *testing.T) {
	for _, bad := range []struct {
		place   int
		numbers []int
	}{
		{0, []int{0, -1, lot + 1, top, 1 << 53, math.MinInt, math.MaxInt}},
		{1, []int{-1, top + 1, 1 << 53, math.MinInt, math.MaxInt}},
		{2, []int{0, -1, top + 1, 1 << 53, math.MinInt, math.MaxInt}},
		{3, []int{0, -1, 17, 18, 255, lot, math.MinInt, math.MaxInt}},
	} {
		for _, good := range [][4]int{{1, 0, 1, 1}, {5, 10, 2, 2}, {lot, top, top, 16}} {
			for _, n := range bad.numbers {
				x := good
				x[bad.place] = n
				if a, e := clock.New(x[0], x[1], x[2], x[3]); a != nil || e != api.ErrArg {
					t.Errorf("New of %v = %v, %d", x, a, e)
				}
			}
		}
	}
}

// 7.1: a demand is the last one that was said, and nobody else's.
func TestBid(t *testing.T) {
	a := newAuction(t, 5, 10, 2, 3)
	bid(t, a, 4, 0, 3)
	for _, n := range []int{0, 1, 7, lot, lot - 1, 2, 2} {
		if e := a.Bid(1, n); e != api.OK {
			t.Errorf("Bid(1, %d) = %d", n, e)
		}
		wantWants(t, a, 0, 0, 4)
		wantWants(t, a, 1, 0, n)
		wantWants(t, a, 2, 0, 3)
		wantTells(t, a, tells{round: 1, price: 10, demand: 7 + n, supply: 5})
	}
}

// 7.1: in the first round one may want more than ahead, since nothing was.
func TestBidInTheFirstRound(t *testing.T) {
	a := newAuction(t, 1, 0, 1, 16)
	for who := range 16 {
		for _, n := range []int{1, 0, lot} {
			if e := a.Bid(who, n); e != api.OK {
				t.Errorf("Bid(%d, %d) = %d", who, n, e)
			}
		}
	}
	if a.Demand() != 16*lot {
		t.Errorf("all together are %d", a.Demand())
	}
}

// 7.1: in later rounds as much as ahead may be wanted, however little was said in between.
func TestBidInLaterRounds(t *testing.T) {
	a := newAuction(t, 3, 10, 2, 2)
	bid(t, a, 8, 5)
	next(t, a, clock.Open)
	wantBid(t, a, 0, 9, api.ErrRise)
	wantBid(t, a, 1, 6, api.ErrRise)
	wantBid(t, a, 1, 8, api.ErrRise)
	wantBid(t, a, 0, lot, api.ErrRise)
	bid(t, a, 8, 5)
	bid(t, a, 2)
	bid(t, a, 8)
	bid(t, a, 6)
	wantWants(t, a, 0, 8, 6)
	next(t, a, clock.Open)
	wantBid(t, a, 0, 7, api.ErrRise)
	wantBid(t, a, 0, 8, api.ErrRise)
	wantBid(t, a, 1, 6, api.ErrRise)
	bid(t, a, 6, 0)
	next(t, a, clock.Open)
	wantBid(t, a, 1, 1, api.ErrRise)
	bid(t, a, 6, 0)
}

// 7.1: no such bidder, and no such demand, in the first round and in a later one.
func TestBidRefuses(t *testing.T) {
	a := newAuction(t, 3, 10, 2, 3)
	bid(t, a, lot, 4, 3)
	for range 2 {
		for _, who := range beside(3) {
			for _, n := range []int{0, 1, 4, lot, lot + 1, -1} {
				wantBid(t, a, who, n, api.ErrArg)
			}
		}
		for who := range 3 {
			// Ahead of ErrRise: there is no such demand, whatever was wanted ahead.
			for _, n := range []int{-1, lot + 1, lot + 2, top, math.MinInt, math.MaxInt} {
				wantBid(t, a, who, n, api.ErrArg)
			}
		}
		bid(t, a, lot, 4, 3)
		next(t, a, clock.Open)
	}
	wantBid(t, a, 1, lot, api.ErrRise)
}

// 7.1, 7.2: an auction that is over takes nothing.
func TestClosed(t *testing.T) {
	sold := newAuction(t, 7, 10, 2, 3)
	bid(t, sold, 4, 3)
	next(t, sold, clock.Sold)
	wantClosed(t, sold)

	later := newAuction(t, 7, 10, 2, 3)
	bid(t, later, 4, 3, 2)
	next(t, later, clock.Open)
	bid(t, later, 1, 3)
	next(t, later, clock.Sold)
	wantClosed(t, later)

	void := newAuction(t, 7, top, 1, 3)
	bid(t, void, 4, 4)
	next(t, void, clock.Void)
	wantClosed(t, void)
}

// 7.2: sold in the first round, with nothing, with less and with just as much wanted as there is.
func TestNextSellsAtOnce(t *testing.T) {
	for _, wants := range [][]int{{0, 0}, {1, 0}, {0, 6}, {3, 3}, {4, 3}, {0, 7}, {7, 0}} {
		for _, start := range []int{0, 10, top} {
			a := newAuction(t, 7, start, 2, 2)
			bid(t, a, wants...)
			next(t, a, clock.Sold)
			wantTells(t, a, tells{round: 1, price: start, demand: wants[0] + wants[1], supply: 7, state: clock.Sold})
			wantWants(t, a, 0, 0, wants[0])
			wantWants(t, a, 1, 0, wants[1])
		}
	}
}

// 7.2: sold in later rounds; one piece too many is enough to go on.
func TestNextSellsLater(t *testing.T) {
	for rounds := 2; rounds <= 5; rounds++ {
		for _, n := range []int{0, 1, 6, 7} {
			a := newAuction(t, 7, 10, 3, 2)
			bid(t, a, 7, 1)
			for r := 2; r <= rounds; r++ {
				next(t, a, clock.Open)
				wantTells(t, a, tells{round: r, price: 10 + 3*(r-1), last: 10 + 3*(r-2), demand: 8, supply: 7})
				wantWants(t, a, 0, 7, 7)
				wantWants(t, a, 1, 1, 1)
			}
			bid(t, a, n, 0)
			next(t, a, clock.Sold)
			wantTells(t, a, tells{rounds, 10 + 3*(rounds-1), 10 + 3*(rounds-2), n, 7, clock.Sold})
			wantWants(t, a, 0, 7, n)
			wantWants(t, a, 1, 1, 0)
		}
	}
}

// 7.2: a round at just the greatest price is held; none beyond it.
func TestNextAtTheTop(t *testing.T) {
	for _, x := range []struct{ start, step, rounds int }{
		{top, 1, 1}, {top, top, 1}, {top - 1, 2, 1}, {1, top, 1}, {top/2 + 1, top / 2, 1},
		{top - 1, 1, 2}, {0, top, 2}, {top / 2, top / 2, 2}, {1, top - 1, 2}, {top - 3, 2, 2},
		{top - 2, 1, 3}, {0, top / 2, 3}, {top - 4, 2, 3}, {top - 5, 2, 3}, {2, top/4 - 1, 5},
	} {
		a := newAuction(t, 1, x.start, x.step, 1)
		bid(t, a, 2)
		for range x.rounds - 1 {
			next(t, a, clock.Open)
		}
		if a.Price() > top || a.Price()+x.step <= top || a.Round() != x.rounds {
			t.Errorf("%v: round %d at %d", x, a.Round(), a.Price())
		}
		before := a.Price()
		next(t, a, clock.Void)
		if a.Price() != before || a.Round() != x.rounds {
			t.Errorf("%v: void in round %d at %d", x, a.Round(), a.Price())
		}
	}
}

// 7.2: what is not wanted too much is sold at the greatest price too.
func TestNextSellsAtTheTop(t *testing.T) {
	a := newAuction(t, 1, top-1, 1, 2)
	bid(t, a, 1, 1)
	next(t, a, clock.Open)
	bid(t, a, 1, 0)
	next(t, a, clock.Sold)
	wantTells(t, a, tells{2, top, top - 1, 1, 1, clock.Sold})
}
