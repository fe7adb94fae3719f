package clock_test

import (
	"math"
	"slices"
	"testing"

	"gavel/api"
	"gavel/clock"
)

// 7.3: round by round, while it is open and when it is sold.
func TestTold(t *testing.T) {
	a := newAuction(t, 5, 10, 2, 3)
	wantTells(t, a, tells{1, 10, 0, 0, 5, clock.Open})
	bid(t, a, 4, 3)
	wantTells(t, a, tells{1, 10, 0, 7, 5, clock.Open})
	wantWants(t, a, 0, 0, 4)
	wantWants(t, a, 1, 0, 3)
	wantWants(t, a, 2, 0, 0)

	next(t, a, clock.Open)
	wantTells(t, a, tells{2, 12, 10, 7, 5, clock.Open})
	wantWants(t, a, 0, 4, 4)
	wantWants(t, a, 1, 3, 3)
	wantWants(t, a, 2, 0, 0)
	bid(t, a, 3)
	wantTells(t, a, tells{2, 12, 10, 6, 5, clock.Open})
	wantWants(t, a, 0, 4, 3)

	next(t, a, clock.Open)
	wantTells(t, a, tells{3, 14, 12, 6, 5, clock.Open})
	wantWants(t, a, 0, 3, 3)
	bid(t, a, 3, 1)
	wantTells(t, a, tells{3, 14, 12, 4, 5, clock.Open})

	next(t, a, clock.Sold)
	wantTells(t, a, tells{3, 14, 12, 4, 5, clock.Sold})
	wantWants(t, a, 0, 3, 3)
	wantWants(t, a, 1, 3, 1)
	wantWants(t, a, 2, 0, 0)
}

// 7.3: when it is void.
func TestToldOfVoid(t *testing.T) {
	a := newAuction(t, 5, top-3, 2, 2)
	bid(t, a, 9, 3)
	next(t, a, clock.Open)
	bid(t, a, 6, 2)
	next(t, a, clock.Void)
	wantTells(t, a, tells{2, top - 1, top - 3, 8, 5, clock.Void})
	wantWants(t, a, 0, 9, 6)
	wantWants(t, a, 1, 3, 2)
	first := newAuction(t, 5, top, 2, 1)
	bid(t, first, 6)
	next(t, first, clock.Void)
	wantTells(t, first, tells{1, top, 0, 6, 5, clock.Void})
}

// 7.3: a start of 0 is a price like any other, in the round and in the one ahead.
func TestToldFromNothing(t *testing.T) {
	a := newAuction(t, 1, 0, 7, 1)
	bid(t, a, 2)
	wantTells(t, a, tells{1, 0, 0, 2, 1, clock.Open})
	next(t, a, clock.Open)
	wantTells(t, a, tells{2, 7, 0, 2, 1, clock.Open})
	next(t, a, clock.Open)
	wantTells(t, a, tells{3, 14, 7, 2, 1, clock.Open})
	// The price of the round ahead of the second one is the start.
	b := newAuction(t, 2, 0, 7, 2)
	bid(t, b, 2, 1)
	next(t, b, clock.Open)
	bid(t, b, 1, 0)
	next(t, b, clock.Sold)
	wantSale(t, b, 0, 2, 0)
}

// 7.3
func TestWantsOfNobody(t *testing.T) {
	for _, bidders := range []int{1, 3, 15, 16} {
		a := newAuction(t, 1, 10, 2, bidders)
		bid(t, a, slices.Repeat([]int{9}, bidders)...)
		next(t, a, clock.Open)
		wantWants(t, a, 0, 9, 9)
		wantWants(t, a, bidders-1, 9, 9)
		for _, who := range []int{-1, -bidders, bidders, bidders + 1, 17, math.MinInt, math.MaxInt} {
			wantWants(t, a, who, 0, 0)
		}
	}
}

// 7.3: telling changes nothing.
func TestTellingChangesNothing(t *testing.T) {
	a := newAuction(t, 5, 10, 2, 2)
	bid(t, a, 4, 3)
	next(t, a, clock.Open)
	bid(t, a, 1)
	for range 3 {
		tell(a)
	}
	wantTells(t, a, tells{2, 12, 10, 4, 5, clock.Open})
	next(t, a, clock.Sold)
	for range 3 {
		tell(a)
	}
	wantSale(t, a, 10, 2, 3)
}

// 7.7: of nil, and of an auction that neither New nor Of gave.
func TestNoAuction(t *testing.T) {
	for _, a := range []*clock.Auction{nil, {}, new(clock.Auction)} {
		for range 2 {
			wantTells(t, a, tells{state: clock.Void})
			for _, who := range append(beside(1), 0) {
				wantWants(t, a, who, 0, 0)
				for _, n := range []int{-1, 0, 1, lot, lot + 1} {
					if e := a.Bid(who, n); e != api.ErrArg {
						t.Errorf("Bid(%d, %d) = %d", who, n, e)
					}
				}
			}
			if over, e := a.Next(); over || e != api.ErrArg {
				t.Errorf("Next() = %v, %d", over, e)
			}
			wantNoSale(t, a, api.ErrArg)
			if s := a.Bytes(); s != "" {
				t.Errorf("Bytes() = %q", s)
			}
		}
	}
}
