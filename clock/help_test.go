package clock_test

import (
	"math"
	"reflect"
	"slices"
	"testing"

	"gavel/api"
	"gavel/clock"
)

const (
	lot = 1 << 20 // the most pieces
	top = 1 << 40 // the greatest price
)

// beside are numbers of which none is one of the first n.
func beside(n int) []int {
	return []int{-1, n, n + 1, 16, 17, math.MinInt, math.MaxInt}
}

func newAuction(t *testing.T, supply, start, step, bidders int) *clock.Auction {
	t.Helper()
	a, e := clock.New(supply, start, step, bidders)
	if a == nil || e != api.OK {
		t.Fatalf("New(%d, %d, %d, %d) = %v, %d", supply, start, step, bidders, a, e)
	}
	return a
}

// bid: the bidders from 0 on want so much.
func bid(t *testing.T, a *clock.Auction, wants ...int) {
	t.Helper()
	for who, n := range wants {
		if e := a.Bid(who, n); e != api.OK {
			t.Fatalf("Bid(%d, %d) = %d", who, n, e)
		}
	}
}

// next: the round ends, and the auction stands so.
func next(t *testing.T, a *clock.Auction, state int) {
	t.Helper()
	if over, e := a.Next(); over != (state != clock.Open) || e != api.OK || a.State() != state {
		t.Fatalf("Next() = %v, %d in the state %d, want the state %d", over, e, a.State(), state)
	}
}

// told is all that an auction tells.
type told struct {
	demand, price, last, supply, round, state int
	wants                                     [][2]int
	sold                                      int
	gets                                      []int
	e                                         api.Errno
	bytes                                     string
}

func tell(a *clock.Auction) told {
	s := told{
		demand: a.Demand(),
		price:  a.Price(),
		last:   a.Last(),
		supply: a.Supply(),
		round:  a.Round(),
		state:  a.State(),
		bytes:  a.Bytes(),
	}
	for who := -1; who <= 17; who++ {
		was, now := a.Wants(who)
		s.wants = append(s.wants, [2]int{was, now})
	}
	s.sold, s.gets, s.e = a.Sale()
	return s
}

// wantBid: Bid answers that error, and nothing that the auction tells is changed.
func wantBid(t *testing.T, a *clock.Auction, who, n int, want api.Errno) {
	t.Helper()
	before := tell(a)
	if e := a.Bid(who, n); e != want {
		t.Errorf("Bid(%d, %d) = %d, want %d", who, n, e, want)
	}
	if now := tell(a); !reflect.DeepEqual(now, before) {
		t.Errorf("Bid(%d, %d) was refused and changed\n%v\nto\n%v", who, n, before, now)
	}
}

// wantClosed: nothing is taken any more, whatever it is, and nothing is changed.
func wantClosed(t *testing.T, a *clock.Auction) {
	t.Helper()
	before := tell(a)
	if over, e := a.Next(); over || e != api.ErrClosed {
		t.Errorf("Next() = %v, %d of an auction that is over", over, e)
	}
	if now := tell(a); !reflect.DeepEqual(now, before) {
		t.Errorf("Next() was refused and changed\n%v\nto\n%v", before, now)
	}
	for _, who := range append(beside(3), 0) {
		for _, n := range []int{0, 1, lot, lot + 1, -1, math.MinInt, math.MaxInt} {
			wantBid(t, a, who, n, api.ErrClosed)
		}
	}
}

func wantSale(t *testing.T, a *clock.Auction, price int, gets ...int) {
	t.Helper()
	if p, l, e := a.Sale(); p != price || !slices.Equal(l, gets) || e != api.OK {
		t.Errorf("Sale() = %d, %v, %d, want %d, %v", p, l, e, price, gets)
	}
}

func wantNoSale(t *testing.T, a *clock.Auction, want api.Errno) {
	t.Helper()
	if p, l, e := a.Sale(); p != 0 || len(l) != 0 || e != want {
		t.Errorf("Sale() = %d, %v, %d, want %d", p, l, e, want)
	}
}

func wantWants(t *testing.T, a *clock.Auction, who, was, now int) {
	t.Helper()
	if w, n := a.Wants(who); w != was || n != now {
		t.Errorf("Wants(%d) = %d, %d, want %d, %d", who, w, n, was, now)
	}
}

// tells are the numbers that an auction tells of its round and of itself.
type tells struct{ round, price, last, demand, supply, state int }

func wantTells(t *testing.T, a *clock.Auction, want tells) {
	t.Helper()
	if got := (tells{a.Round(), a.Price(), a.Last(), a.Demand(), a.Supply(), a.State()}); got != want {
		t.Errorf("told is %+v, want %+v", got, want)
	}
}

// chance is a row of numbers that looks like chance and is always the same.
func chance(seed uint32) func(n int) int {
	return func(n int) int {
		seed = seed*1664525 + 1013904223
		return int(seed>>8) % n
	}
}

// laid is numbers to the base 128, the lowest digit first.
func laid(numbers ...int) string {
	var out []byte
	for _, n := range numbers {
		for ; n > 127; n /= 128 {
			out = append(out, byte(n%128+128))
		}
		out = append(out, byte(n))
	}
	return string(out)
}
