package house_test

import (
	"testing"

	"gavel/api"
	"gavel/house"
)

// selling is a rich house in which client 0 sells 5 of good 1 from 10 on by steps of 2.
func selling(t *testing.T) *house.House {
	t.Helper()
	h := rich(t)
	done(t, h, 0, offer(1, 5, 10, 2))
	return h
}

// 9.1: Offer's errors, in their order.
func TestOfferIsRefused(t *testing.T) {
	h := selling(t)
	supplies := []int{0, lot + 1, end}
	steps := []int{0, most + 1, end}
	for _, good := range []int{2, 3, 4, end} {
		refused(t, h, "no such good", 2, offer(good, 5, 10, 2), api.ErrArg)
		refused(t, h, "no such good, and a price that may not be", 2, at(0.3, offer(good, 5, 10, 2)), api.ErrArg)
	}
	for good := range 2 { // of the second one there is an auction
		for p, e := range badPrices() {
			refused(t, h, "a price that may not be", 2, at(p, offer(good, 5, 10, 2)), e)
			refused(t, h, "a price and a supply that may not be", 2, at(p, offer(good, 0, 10, 2)), e)
			refused(t, h, "a price and a step that may not be", 2, at(p, offer(good, 5, 10, 0)), e)
			refused(t, h, "a price that may not be, of more than is free", 2, at(p, offer(good, 81, 10, 2)), e)
		}
		for _, n := range supplies {
			refused(t, h, "a supply that may not be", 2, offer(good, n, 10, 2), api.ErrArg)
		}
		for _, n := range steps {
			refused(t, h, "a step that may not be", 2, offer(good, 5, 10, n), api.ErrArg)
			refused(t, h, "a step that may not be, of more than is free", 2, offer(good, 81, 10, n), api.ErrArg)
		}
	}
	for who := range 4 {
		refused(t, h, "there", who, offer(1, 1, 1, 1), api.ErrThere)
		refused(t, h, "there, of more than is free", who, offer(1, 81, 1, 1), api.ErrThere)
	}
	refused(t, h, "one more than is free", 2, offer(0, 51, 10, 2), api.ErrPoor)
	refused(t, h, "much more than is free", 2, offer(0, lot, most, most), api.ErrPoor)
	done(t, h, 2, sell(0, 1, 3, 3))
	refused(t, h, "what an order locks", 2, offer(0, 48, 10, 2), api.ErrPoor)
	done(t, h, 2, offer(0, 47, 10, 2))
	hasGood(t, h, 2, 0, 50, 50)
}

// 9.1: what an Offer does, at its edges.
func TestOffer(t *testing.T) {
	for _, x := range []struct{ supply, start, step int }{{1, 0, 1}, {lot, most, most}, {5, 10, 2}, {5, 0, most}, {5, most, 1}} {
		h := newHouse(t, 3, 4)
		for good := range 4 {
			done(t, h, 2, store(good, lot))
			noAuction(t, h, good)
			done(t, h, 2, offer(good, x.supply, x.start, x.step))
			wantAuction(t, h, good, 2, x.supply, x.start, x.step, 1, 0, 3, 0, 0, 0, 0, 0, 0)
			hasGood(t, h, 2, good, lot, x.supply)
		}
		has(t, h, 2, 0, 0)
	}
	h := newHouse(t, 1, 1)
	done(t, h, 0, store(0, 3), offer(0, 3, 1, 1))
	wantAuction(t, h, 0, 0, 3, 1, 1, 1, 0, 1, 0, 0)
	h = newHouse(t, 16, 1)
	done(t, h, 15, store(0, 3), offer(0, 3, 1, 1))
	if _, seller, on := h.Auction(0); seller != 15 || !on {
		t.Errorf("%d, %v", seller, on)
	}
}

// 9.1: Want's errors, in their order.
func TestWantIsRefused(t *testing.T) {
	h := selling(t)
	for _, o := range []api.Op{want(2, 1), want(end, 1), want(1, lot+1), want(1, end), want(0, lot+1), want(2, lot+1)} {
		refused(t, h, "no such good, or too much", 1, o, api.ErrArg)
		refused(t, h, "no such good, or too much, by the seller", 0, o, api.ErrArg)
	}
	for who := range 4 {
		refused(t, h, "no auction", who, want(0, 1), api.ErrNone)
		refused(t, h, "no auction, and no cash", who, want(0, lot), api.ErrNone)
	}
	for _, n := range []int{0, 1, lot} {
		refused(t, h, "the seller", 0, want(1, n), api.ErrOwner)
	}
	refused(t, h, "one more than is free", 1, want(1, 101), api.ErrPoor)
	refused(t, h, "the most", 1, want(1, lot), api.ErrPoor)
	done(t, h, 1, want(1, 4))
	refused(t, h, "one more than is free, beside what is held", 1, want(1, 101), api.ErrPoor)
	done(t, h, 2, want(1, 90), buy(0, 1, 1, 10))
	refused(t, h, "what an order holds", 2, want(1, 100), api.ErrPoor)
	done(t, h, 3, want(1, 3))
	done(t, h, 0, tick())
	wantAuction(t, h, 1, 0, 5, 10, 2, 2, 0, 4, 0, 0, 4, 4, 90, 82, 3, 3)
	refused(t, h, "a demand that rises", 1, want(1, 5), api.ErrRise)
	refused(t, h, "a demand that rises, of more than is free", 1, want(1, lot), api.ErrRise)
	refused(t, h, "a demand that rises", 3, want(1, 4), api.ErrRise)
	refused(t, h, "the seller, of more than ahead", 0, want(1, 1), api.ErrOwner)
	refused(t, h, "more than it can pay for at the new price", 2, want(1, 83), api.ErrPoor)
	done(t, h, 3, want(1, 2), want(1, 3)) // up to the demand ahead it may rise again
	refused(t, h, "too much, by the seller", 0, want(1, lot+1), api.ErrArg)
}

// 9.1: the greatest price times the greatest demand is more than there is, and no less.
func TestWantAtTheGreatestPrice(t *testing.T) {
	h := newHouse(t, 2, 1)
	done(t, h, 0, store(0, 2), offer(0, 2, most, 1))
	done(t, h, 1, pay(most))
	for _, n := range []int{2, 3, 1 << 10, lot - 1, lot} {
		refused(t, h, "more than there can be", 1, want(0, n), api.ErrPoor)
	}
	done(t, h, 1, want(0, 1))
	has(t, h, 1, most, most)
	done(t, h, 1, tick())
	has(t, h, 0, most, 0)
	has(t, h, 1, 0, 0)
	hasGood(t, h, 1, 0, 1, 0)
	hasGood(t, h, 0, 0, 1, 0)
}

// 9.1: what a Want lets be held, in the first round and in later ones.
func TestWant(t *testing.T) {
	h := selling(t)
	for _, n := range []int{4, 100, 0, 1, 0, 6} {
		done(t, h, 1, want(1, n))
		has(t, h, 1, 1000, 10*n)
	}
	done(t, h, 2, want(1, 5), tick())
	wantAuction(t, h, 1, 0, 5, 10, 2, 2, 0, 4, 0, 0, 6, 6, 5, 5, 0, 0)
	for _, x := range [][2]int{{5, 60}, {6, 72}, {0, 60}, {6, 72}, {1, 60}} { // never less than the round ahead would cost
		done(t, h, 1, want(1, x[0]))
		has(t, h, 1, 1000, x[1])
		has(t, h, 2, 1000, 60)
	}
	done(t, h, 1, want(1, 6), tick())
	has(t, h, 1, 1000, 84)
	done(t, h, 1, want(1, 0))
	has(t, h, 1, 1000, 72)
	hasGood(t, h, 0, 1, 80, 5)
}

// 9.1: a start at 0 holds nothing in the first round.
func TestWantForNothing(t *testing.T) {
	h := newHouse(t, 3, 1)
	done(t, h, 0, store(0, 5), offer(0, 5, 0, 3))
	done(t, h, 1, want(0, lot), pay(7))
	done(t, h, 2, want(0, 3))
	has(t, h, 1, 7, 0)
	done(t, h, 0, tick())
	wantAuction(t, h, 0, 0, 5, 0, 3, 2, 0, 3, 0, 0, lot, 2, 3, 0)
	has(t, h, 1, 7, 6)
	done(t, h, 0, tick())
	// 3 of the 5 are left, and go at the price of the round ahead, by gaps of nearly 2^20 and 3.
	noAuction(t, h, 0)
	has(t, h, 1, 7, 0)
	hasGood(t, h, 1, 0, 5, 0)
	hasGood(t, h, 2, 0, 0, 0)
	hasGood(t, h, 0, 0, 0, 0)
}

// 9.1: a round that ends with more wanted than there is: demands that the new price cuts, to what cash that is free or held here pays for.
func TestRoundGoesOn(t *testing.T) {
	h := newHouse(t, 6, 2)
	done(t, h, 0, store(0, 9), store(1, 9), offer(0, 5, 10, 5))
	done(t, h, 1, pay(100), want(0, 4))                  // can pay for all
	done(t, h, 2, pay(59), want(0, 4))                   // 59 pay for 3 at 15
	done(t, h, 3, pay(60), want(0, 4))                   // just enough
	done(t, h, 4, pay(60), buy(1, 0, 1, 16), want(0, 4)) // 16 are held for something else: 44 pay for 2
	done(t, h, 5, pay(14), want(0, 1))                   // not even one
	done(t, h, 1, buy(1, 1, 1, 7))                       // beside what the auction holds
	done(t, h, 5, tick())
	wantAuction(t, h, 0, 0, 5, 10, 5, 2, 0, 6, 0, 0, 4, 4, 4, 3, 4, 4, 4, 2, 1, 0)
	has(t, h, 0, 0, 0)
	has(t, h, 1, 100, 67)
	has(t, h, 2, 59, 45)
	has(t, h, 3, 60, 60)
	has(t, h, 4, 60, 56) // 40 of the round ahead, more than 30
	has(t, h, 5, 14, 10)
	hasGood(t, h, 0, 0, 9, 5)
	refused(t, h, "more than it can pay for", 2, want(0, 4), api.ErrPoor)
	done(t, h, 2, pay(1), want(0, 4)) // what was cut may be wanted again
	has(t, h, 2, 60, 60)
	refused(t, h, "more than it can pay for", 5, want(0, 1), api.ErrPoor)
}

// 9.1: sold whole in the first round: as much is wanted as there is.
func TestSoldWhole(t *testing.T) {
	h := selling(t)
	done(t, h, 1, want(1, 2))
	done(t, h, 3, want(1, 3), tick())
	noAuction(t, h, 1)
	has(t, h, 0, 1050, 0)
	hasGood(t, h, 0, 1, 75, 0)
	has(t, h, 1, 980, 0)
	hasGood(t, h, 1, 1, 82, 0)
	has(t, h, 2, 1000, 0)
	hasGood(t, h, 2, 1, 80, 0)
	has(t, h, 3, 970, 0)
	hasGood(t, h, 3, 1, 83, 0)
	done(t, h, 3, offer(1, 83, 1, 1)) // another auction can begin
	wantAuction(t, h, 1, 3, 83, 1, 1, 1, 0, 4, 0, 0, 0, 0, 0, 0, 0, 0)
}

// 9.1: sold in part in the first round; what is left is the seller's, free.
func TestSoldInPart(t *testing.T) {
	h := selling(t)
	done(t, h, 1, want(1, 2))
	done(t, h, 3, want(1, 1), tick())
	noAuction(t, h, 1)
	has(t, h, 0, 1030, 0)
	hasGood(t, h, 0, 1, 77, 0)
	has(t, h, 1, 980, 0)
	hasGood(t, h, 1, 1, 82, 0)
	has(t, h, 3, 990, 0)
	hasGood(t, h, 3, 1, 81, 0)
	done(t, h, 0, fetch(1, 77))
}

// 9.1: sold to nobody, and to nobody any more.
func TestSoldToNobody(t *testing.T) {
	h := selling(t)
	done(t, h, 1, want(1, 2), want(1, 0), tick())
	noAuction(t, h, 1)
	for who := range 4 {
		has(t, h, who, 1000, 0)
		hasGood(t, h, who, 1, 80, 0)
	}
}

// 9.1: void: more is wanted than there is, and the price can go no higher.
func TestVoid(t *testing.T) {
	h := rich(t)
	done(t, h, 0, offer(1, 5, 10, most))
	done(t, h, 1, want(1, 2))
	done(t, h, 3, want(1, 4), tick())
	noAuction(t, h, 1)
	for who := range 4 {
		has(t, h, who, 1000, 0)
		hasGood(t, h, who, 1, 80, 0)
	}
}

// 9.1: sold in a later round: with as much wanted as there is, at its price; with less, at that of the round ahead.
func TestSoldLater(t *testing.T) {
	h := selling(t)
	done(t, h, 1, want(1, 4))
	done(t, h, 2, want(1, 3), tick(), want(1, 1), tick())
	noAuction(t, h, 1)
	has(t, h, 0, 1060, 0)
	has(t, h, 1, 952, 0)
	hasGood(t, h, 1, 1, 84, 0)
	has(t, h, 2, 988, 0)
	hasGood(t, h, 2, 1, 81, 0)
	h = selling(t)
	done(t, h, 1, want(1, 4))
	done(t, h, 2, want(1, 3), tick())
	done(t, h, 1, want(1, 1), tick())
	noAuction(t, h, 1)
	has(t, h, 0, 1050, 0)
	hasGood(t, h, 0, 1, 75, 0)
	has(t, h, 1, 980, 0)
	hasGood(t, h, 1, 1, 82, 0)
	has(t, h, 2, 970, 0)
	hasGood(t, h, 2, 1, 83, 0)
}

// 9.1: in a tick a good's market is cleared ahead of its auction's round, and both ahead of the next good's.
func TestOrderWithinATick(t *testing.T) {
	for _, x := range []struct{ market, auction, now int }{{0, 0, 4}, {1, 1, 4}, {0, 1, 4}, {1, 0, 3}} {
		// What client 1 earns, 8, it needs to pay for 4 pieces at 12.
		h := newHouse(t, 3, 2)
		done(t, h, 0, pay(100), store(x.auction, 1), offer(x.auction, 1, 10, 2), buy(x.market, 1, 1, 8))
		done(t, h, 1, pay(40), store(x.market, 1), want(x.auction, 4), sell(x.market, 1, 1, 8), tick())
		has(t, h, 0, 92, 0)
		has(t, h, 1, 48, max(40, 12*x.now))
		wantAuction(t, h, x.auction, 0, 1, 10, 2, 2, 0, 3, 0, 0, 4, x.now, 0, 0)
	}
}

// 9.1: of two auctions the first good's takes what is free; what is held for one does not count for the other.
func TestTwoAuctions(t *testing.T) {
	h := newHouse(t, 3, 2)
	done(t, h, 0, store(0, 1), offer(0, 1, 10, 2))
	done(t, h, 2, store(1, 1), offer(1, 1, 20, 4), pay(50))
	done(t, h, 1, pay(130), want(0, 4), want(1, 4))
	done(t, h, 2, want(0, 5))
	has(t, h, 1, 130, 120)
	refused(t, h, "what is held for the other one", 1, want(0, 6), api.ErrPoor)
	refused(t, h, "the seller of this one", 2, want(1, 1), api.ErrOwner)
	done(t, h, 0, tick())
	// Of the 10 that are free 8 go to the first one; 82 pay for 3 at 24.
	wantAuction(t, h, 0, 0, 1, 10, 2, 2, 0, 3, 0, 0, 4, 4, 5, 4)
	wantAuction(t, h, 1, 2, 1, 20, 4, 2, 0, 3, 0, 0, 4, 3, 0, 0)
	has(t, h, 1, 130, 48+80)
	has(t, h, 2, 50, 50)
	done(t, h, 1, want(0, 0), want(1, 1))
	has(t, h, 1, 130, 40+80)
	done(t, h, 0, tick())
	// The first one goes on without client 1, of whom it holds nothing any more; in the second one it gets the piece at 24.
	wantAuction(t, h, 0, 0, 1, 10, 2, 3, 0, 3, 0, 0, 0, 0, 4, 3)
	noAuction(t, h, 1)
	has(t, h, 1, 106, 0)
	hasGood(t, h, 1, 1, 1, 0)
	has(t, h, 2, 74, 48)
}

// 9.1: an auction and a market of one good, and of one client, do not know of each other.
func TestAuctionBesideMarket(t *testing.T) {
	h := selling(t)
	done(t, h, 0, sell(1, 1, 70, 10))
	hasGood(t, h, 0, 1, 80, 75)
	refused(t, h, "more than is free", 0, sell(1, 2, 6, 10), api.ErrPoor)
	done(t, h, 1, want(1, 1), buy(1, 1, 2, 30))
	has(t, h, 1, 1000, 70)
	done(t, h, 1, tick())
	has(t, h, 1, 970, 0)
	hasGood(t, h, 1, 1, 83, 0)
	has(t, h, 0, 1030, 0)
	hasGood(t, h, 0, 1, 77, 68)
}
