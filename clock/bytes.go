package clock

import (
	"strings"

	"gavel/api"
	"gavel/wire"
)

// An auction's bytes are its head (supply, start, step, round, state, how many bidders), and of each bidder two numbers.
const (
	head       = 6
	maxNumbers = head + 2*api.MaxBidders
)

// Bytes lays an auction.
func (a *Auction) Bytes() string {
	if !a.made() {
		return ""
	}
	l := []int{a.supply, a.start, a.step, a.round, a.state, len(a.demands)}
	for _, d := range a.demands {
		l = append(l, d.was, d.now)
	}
	var out strings.Builder
	for _, n := range l {
		s, _ := wire.PutInt(n) // the greatest is a round, of at most 2^40 + 1
		out.WriteString(s)
	}
	return out.String()
}

// Of reads an auction.
func Of(s string) (*Auction, api.Errno) {
	l, ok := numbersOf(s)
	if !ok || len(l) < head || len(l) != head+2*l[head-1] {
		return nil, api.ErrState
	}
	a, e := New(l[0], l[1], l[2], l[head-1])
	if e != api.OK {
		return nil, api.ErrState
	}
	a.round, a.state = l[3], l[4]
	for who := range a.demands {
		a.demands[who] = demand{was: l[head+2*who], now: l[head+2*who+1]}
	}
	if !a.roundMayBe() || !a.demandsMayBe() || !a.stateMayBe() {
		return nil, api.ErrState
	}
	return a, api.OK
}

// numbersOf are the numbers that a text is laid of; false, if it is laid of something else, or of more than an auction has.
func numbersOf(s string) ([]int, bool) {
	var l []int
	for at := 0; at < len(s); {
		n, next, e := wire.GetInt(s, at)
		if e != api.OK || len(l) == maxNumbers {
			return nil, false
		}
		l = append(l, n)
		at = next
	}
	return l, true
}

// roundMayBe asks for the rounds that there can be, as the price of a round beyond them could wrap.
func (a *Auction) roundMayBe() bool {
	return within(a.round, 1, 1+(api.MaxAmount-a.start)/a.step)
}

func (a *Auction) demandsMayBe() bool {
	ahead := 0
	for _, d := range a.demands {
		if d.was > api.MaxLot || d.now > api.MaxLot || a.round > 1 && d.now > d.was {
			return false
		}
		ahead += d.was
	}
	if a.round == 1 {
		return ahead == 0
	}
	return ahead > a.supply
}

func (a *Auction) stateMayBe() bool {
	switch a.state {
	case Open:
		return true
	case Sold:
		return a.Demand() <= a.supply
	case Void:
		return a.Demand() > a.supply && a.atTop()
	}
	return false
}
