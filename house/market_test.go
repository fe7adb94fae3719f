package house_test

import (
	"testing"

	"gavel/api"
	"gavel/house"
)

// rich is a house of four clients and two goods, in which each has 1000 cash, 50 of good 0 and 80 of good 1.
func rich(t *testing.T) *house.House {
	t.Helper()
	h := newHouse(t, 4, 2)
	for who := range 4 {
		done(t, h, who, pay(1000), store(0, 50), store(1, 80))
	}
	return h
}

// 9.1: what is wrong with a Put or an Amend, whatever stands in the book.
func wrongOrders(t *testing.T, h *house.House, good api.Op) {
	t.Helper()
	for _, x := range []api.Op{
		with(good, func(o *api.Op) { o.Good = 2 }),
		with(good, func(o *api.Op) { o.Good = 3 }),
		with(good, func(o *api.Op) { o.Good = end }),
		with(good, func(o *api.Op) { o.Side = 2 }),
		with(good, func(o *api.Op) { o.Side = end }),
		with(good, func(o *api.Op) { o.Id = lot + 1 }),
		with(good, func(o *api.Op) { o.Id = end }),
		with(good, func(o *api.Op) { o.Amount = 0 }),
		with(good, func(o *api.Op) { o.Amount = lot + 1 }),
		with(good, func(o *api.Op) { o.Amount = end }),
	} {
		refused(t, h, "what may not be", 1, x, api.ErrArg)
		for p := range badPrices() {
			refused(t, h, "what may not be, with a price that may not be", 1, at(p, x), api.ErrArg)
		}
	}
	for p, e := range badPrices() {
		refused(t, h, "a price that may not be", 1, at(p, good), e)
		poor := with(at(p, good), func(o *api.Op) { o.Amount = lot })
		refused(t, h, "a price that may not be, with less free", 1, poor, e)
		none := with(at(p, good), func(o *api.Op) { o.Id = 99 })
		refused(t, h, "a price that may not be, of no order", 1, none, e)
	}
}

// 9.1: Put's errors, in their order.
func TestPutIsRefused(t *testing.T) {
	h := rich(t)
	done(t, h, 1, buy(0, 5, 1, 10), sell(0, 6, 1, 20))
	wrongOrders(t, h, buy(0, 7, 1, 10))
	wrongOrders(t, h, sell(0, 7, 1, 10))
	wrongOrders(t, h, buy(0, 5, 1, 10)) // also of an order that is there
	refused(t, h, "one more cash than is free", 1, buy(0, 7, 991, 1), api.ErrPoor)
	refused(t, h, "one more cash than is free, at once", 1, buy(0, 7, 1, 991), api.ErrPoor)
	refused(t, h, "the greatest price", 1, buy(0, 7, 1, most), api.ErrPoor)
	refused(t, h, "the greatest of all", 1, buy(0, 7, lot, most), api.ErrPoor)
	refused(t, h, "one more piece than is free", 1, sell(0, 7, 50, 0), api.ErrPoor)
	refused(t, h, "the most pieces", 1, sell(0, 7, lot, most), api.ErrPoor)
	refused(t, h, "with less free than it would hold, and there", 1, buy(0, 5, 991, 1), api.ErrPoor)
	refused(t, h, "with less free than it would lock, and there", 1, sell(0, 5, 50, 1), api.ErrPoor)
	refused(t, h, "there", 1, buy(0, 5, 990, 1), api.ErrThere)
	refused(t, h, "there, of the other side", 1, sell(0, 5, 49, 1), api.ErrThere)
	refused(t, h, "there, of the other side", 1, buy(0, 6, 1, 1), api.ErrThere)
	done(t, h, 1, buy(0, 7, 990, 1), sell(0, 8, 49, most))
	refused(t, h, "nothing is free", 1, buy(0, 9, 1, 1), api.ErrPoor)
	refused(t, h, "nothing is free", 1, sell(0, 9, 1, 1), api.ErrPoor)
	done(t, h, 1, buy(0, 9, lot, 0)) // holds nothing
	has(t, h, 1, 1000, 1000)
	hasGood(t, h, 1, 0, 50, 50)
	done(t, h, 1, sell(1, 5, 80, 1)) // another good's Ids and pieces are its own
	hasGood(t, h, 1, 1, 80, 80)
}

// 9.1: what a Put does.
func TestPut(t *testing.T) {
	h := rich(t)
	done(t, h, 1, buy(0, 0, 3, 7))
	has(t, h, 1, 1000, 21)
	done(t, h, 3, buy(0, 0, 2, 5)) // the Ids of clients are their own
	has(t, h, 3, 1000, 10)
	done(t, h, 1, sell(0, lot, 4, 8), sell(1, 0, 6, 9))
	has(t, h, 1, 1000, 21)
	hasGood(t, h, 1, 0, 50, 4)
	hasGood(t, h, 1, 1, 80, 6)
	hasGood(t, h, 3, 0, 50, 0)
	done(t, h, 1, buy(1, 1, 1, 2))
	has(t, h, 1, 1000, 23)
	wantMarket(t, h, 0,
		api.Order{Id: 1, Owner: 1, Price: 7, Amount: 3, Place: 1, Buys: true},
		api.Order{Id: 3, Owner: 3, Price: 5, Amount: 2, Place: 2, Buys: true},
		api.Order{Id: 16*lot + 1, Owner: 1, Price: 8, Amount: 4, Place: 3})
	wantMarket(t, h, 1,
		api.Order{Id: 1, Owner: 1, Price: 9, Amount: 6, Place: 1},
		api.Order{Id: 17, Owner: 1, Price: 2, Amount: 1, Place: 2, Buys: true})
	has(t, h, 0, 1000, 0)
	has(t, h, 2, 1000, 0)
}

// 9.1: an order may hold all that there may be.
func TestPutOfAllThereMayBe(t *testing.T) {
	h := newHouse(t, 2, 1)
	done(t, h, 0, pay(most), store(0, lot))
	refused(t, h, "one tick more", 0, buy(0, 1, lot, lot+1), api.ErrPoor)
	done(t, h, 0, buy(0, 1, lot, lot), sell(0, 2, lot, most))
	has(t, h, 0, most, most)
	hasGood(t, h, 0, 0, lot, lot)
	done(t, h, 0, cancel(0, 1), buy(0, 1, 1, most))
	has(t, h, 0, most, most)
	done(t, h, 0, tick())
	has(t, h, 0, most, 0)
	hasGood(t, h, 0, 0, lot, lot-1)
	wantMarket(t, h, 0, api.Order{Id: 32, Price: most, Amount: lot - 1, Place: 2})
}

// 9.1: a book of 64 orders, and one that is out of places.
func TestPutIntoFullBook(t *testing.T) {
	h := rich(t)
	for i := range 64 {
		done(t, h, i%4, buy(0, i, 1, 1))
	}
	refused(t, h, "the 65th", 0, buy(0, 64, 1, 1), api.ErrFull)
	refused(t, h, "the 65th", 0, sell(0, 64, 1, 2), api.ErrFull)
	refused(t, h, "the 65th, of more than is free", 0, sell(0, 64, 51, 2), api.ErrPoor)
	refused(t, h, "the 65th, which is there", 0, buy(0, 60, 1, 1), api.ErrThere)
	done(t, h, 0, amend(0, 60, 2, 2), buy(1, 64, 1, 1), cancel(0, 60), buy(0, 64, 1, 1))
	s := standing()
	s.books[0].next = end - 1
	h = of(t, 3, 2, s.records())
	done(t, h, 0, sell(0, 2, 1, 200))
	refused(t, h, "out of places", 0, sell(0, 3, 1, 200), api.ErrFull)
	refused(t, h, "out of places", 0, amend(0, 2, 2, 200), api.ErrFull)
	refused(t, h, "out of places", 0, amend(0, 1, 5, 99), api.ErrFull)
	refused(t, h, "out of places, with less free", 0, amend(0, 2, 21, 200), api.ErrPoor)
	done(t, h, 0, amend(0, 1, 4, 100), cancel(0, 2))
	has(t, h, 0, 1000, 400)
	hasGood(t, h, 0, 0, 20, 0)
}

// 9.1: Amend's errors, in their order.
func TestAmendIsRefused(t *testing.T) {
	h := rich(t)
	done(t, h, 1, buy(0, 5, 10, 10), sell(0, 6, 10, 20))
	done(t, h, 2, buy(0, 7, 10, 10))
	wrongOrders(t, h, amend(0, 5, 1, 10))
	wrongOrders(t, h, with(amend(0, 6, 1, 10), func(o *api.Op) { o.Side = 1 }))
	refused(t, h, "no order", 1, amend(0, 8, 1, 10), api.ErrNone)
	refused(t, h, "no order, with less free", 1, amend(0, 8, lot, most), api.ErrNone)
	refused(t, h, "another one's", 1, amend(0, 7, 1, 10), api.ErrNone)
	refused(t, h, "the number in the book", 1, amend(0, 16*5+1, 1, 10), api.ErrNone)
	refused(t, h, "another good's", 1, amend(1, 5, 1, 10), api.ErrNone)
	refused(t, h, "one more than is free", 1, amend(0, 5, 1001, 1), api.ErrPoor)
	refused(t, h, "much more than is free", 1, amend(0, 5, lot, most), api.ErrPoor)
	refused(t, h, "one more piece than is free", 1, amend(0, 6, 51, 0), api.ErrPoor)
	done(t, h, 1, buy(0, 9, 1, 100), sell(0, 10, 5, 30))
	refused(t, h, "what another order holds", 1, amend(0, 5, 901, 1), api.ErrPoor)
	refused(t, h, "what another order locks", 1, amend(0, 6, 46, 1), api.ErrPoor)
	done(t, h, 1, amend(0, 5, 900, 1), amend(0, 6, 45, 1))
	has(t, h, 1, 1000, 1000)
	hasGood(t, h, 1, 0, 50, 50)
}

// 9.1: what an Amend does.
func TestAmend(t *testing.T) {
	h := rich(t)
	done(t, h, 1, buy(0, 5, 10, 10), sell(0, 6, 10, 20))
	done(t, h, 2, sell(0, 6, 1, 30))
	for _, x := range []struct{ n, ticks, held, place int }{
		{9, 10, 90, 1}, {9, 10, 90, 1}, {10, 10, 100, 4}, {10, 9, 90, 5}, {10, 0, 0, 6}, {100, 10, 1000, 7}, {1, 1000, 1000, 8}, {1, 1, 1, 9}, {lot, 0, 0, 10},
	} {
		done(t, h, 1, amend(0, 5, x.n, x.ticks))
		has(t, h, 1, 1000, x.held)
		hasGood(t, h, 1, 0, 50, 10)
		want := []api.Order{
			{Id: 97, Owner: 1, Price: 20, Amount: 10, Place: 2},
			{Id: 98, Owner: 2, Price: 30, Amount: 1, Place: 3},
			{Id: 81, Owner: 1, Price: x.ticks, Amount: x.n, Place: x.place, Buys: true},
		}
		if x.place == 1 {
			want = []api.Order{want[2], want[0], want[1]}
		}
		wantMarket(t, h, 0, want...)
	}
	for _, x := range []struct{ n, ticks int }{{9, 20}, {50, 20}, {50, most}, {1, 0}} {
		done(t, h, 1, amend(0, 6, x.n, x.ticks))
		hasGood(t, h, 1, 0, 50, x.n)
		has(t, h, 1, 1000, 0)
	}
	has(t, h, 2, 1000, 0)
	hasGood(t, h, 2, 0, 50, 1)
}

// 9.1: an order stays on its side, whichever one an Amend names.
func TestAmendKeepsTheSide(t *testing.T) {
	for side := range 2 {
		h := rich(t)
		done(t, h, 1, buy(0, 5, 10, 10), sell(0, 6, 10, 20))
		named := func(o *api.Op) { o.Side = side }
		done(t, h, 1, with(amend(0, 5, 100, 5), named), with(amend(0, 6, 20, 30), named))
		has(t, h, 1, 1000, 500)
		hasGood(t, h, 1, 0, 50, 20)
		wantMarket(t, h, 0,
			api.Order{Id: 81, Owner: 1, Price: 5, Amount: 100, Place: 3, Buys: true},
			api.Order{Id: 97, Owner: 1, Price: 30, Amount: 20, Place: 4})
	}
}

// 9.1: Cancel's errors, in their order, and what it does.
func TestCancel(t *testing.T) {
	h := rich(t)
	done(t, h, 1, buy(0, 5, 10, 10), sell(0, lot, 10, 20), buy(1, 5, 1, 1))
	done(t, h, 2, buy(0, 7, 10, 10))
	for _, o := range []api.Op{cancel(2, 5), cancel(end, 5), cancel(0, lot+1), cancel(0, end), cancel(2, lot+1)} {
		refused(t, h, "no such good or Id", 1, o, api.ErrArg)
	}
	refused(t, h, "none", 1, cancel(0, 4), api.ErrNone)
	refused(t, h, "another one's", 1, cancel(0, 7), api.ErrNone)
	refused(t, h, "of nobody", 0, cancel(0, 5), api.ErrNone)
	done(t, h, 1, cancel(0, 5))
	has(t, h, 1, 1000, 1)
	refused(t, h, "gone", 1, cancel(0, 5), api.ErrNone)
	wantMarket(t, h, 0,
		api.Order{Id: 16*lot + 1, Owner: 1, Price: 20, Amount: 10, Place: 2},
		api.Order{Id: 114, Owner: 2, Price: 10, Amount: 10, Place: 3, Buys: true})
	done(t, h, 1, cancel(0, lot), cancel(1, 5))
	has(t, h, 1, 1000, 0)
	hasGood(t, h, 1, 0, 50, 0)
	has(t, h, 2, 1000, 100)
	done(t, h, 1, buy(0, 8, 9, 0), cancel(0, 8)) // what holds nothing
	has(t, h, 1, 1000, 0)
}

// 9.1: a tick clears each market at its price: orders filled whole, in part and not at all; what was held beyond the price is free.
func TestClearing(t *testing.T) {
	h := rich(t)
	done(t, h, 0, buy(0, 1, 5, 20), buy(0, 2, 4, 12))
	done(t, h, 1, buy(0, 1, 3, 15), buy(0, 2, 7, 5))
	done(t, h, 2, sell(0, 1, 6, 8), sell(0, 2, 9, 30))
	done(t, h, 3, sell(0, 1, 4, 11))
	has(t, h, 0, 1000, 148)
	has(t, h, 1, 1000, 80)
	done(t, h, 3, tick())
	// At 11 12 are bought and 10 sold; at 12 as well: the lowest one is taken.
	has(t, h, 0, 1000-7*11, 24)
	hasGood(t, h, 0, 0, 57, 0)
	has(t, h, 1, 1000-3*11, 35)
	hasGood(t, h, 1, 0, 53, 0)
	has(t, h, 2, 1000+6*11, 0)
	hasGood(t, h, 2, 0, 44, 9)
	has(t, h, 3, 1000+4*11, 0)
	hasGood(t, h, 3, 0, 46, 0)
	wantMarket(t, h, 0,
		api.Order{Id: 32, Owner: 0, Price: 12, Amount: 2, Place: 2, Buys: true},
		api.Order{Id: 33, Owner: 1, Price: 5, Amount: 7, Place: 4, Buys: true},
		api.Order{Id: 34, Owner: 2, Price: 30, Amount: 9, Place: 6})
	before := tell(h)
	done(t, h, 0, tick()) // nothing is left to trade
	now := tell(h)
	if now.cash != before.cash || now.accounts[0] != before.accounts[0] || now.accounts[2] != before.accounts[2] {
		t.Errorf("a second tick changed\n%+v\nto\n%+v", before, now)
	}
	done(t, h, 0, cancel(0, 2))
	done(t, h, 1, cancel(0, 2))
	done(t, h, 2, cancel(0, 2))
	has(t, h, 0, 923, 0)
	has(t, h, 1, 967, 0)
	hasGood(t, h, 2, 0, 44, 0)
}

// 9.1: each good has a market of its own, and one tick clears all.
func TestClearingOfGoods(t *testing.T) {
	h := newHouse(t, 2, 4)
	done(t, h, 0, pay(1000))
	for good := range 4 {
		done(t, h, 1, store(good, 10), sell(good, 1, 2+good, 10*good))
		done(t, h, 0, buy(good, 1, 1+good, 10*good+5))
	}
	has(t, h, 0, 1000, 5+30+75+140)
	done(t, h, 1, tick())
	has(t, h, 0, 1000-20-60-120, 0) // the first good is given away
	has(t, h, 1, 200, 0)
	for good := range 4 {
		hasGood(t, h, 0, good, 1+good, 0)
		hasGood(t, h, 1, good, 9-good, 1)
		wantMarket(t, h, good, api.Order{Id: 17, Owner: 1, Price: 10 * good, Amount: 1, Place: 1})
	}
}

// 9.1: who trades with itself has what it had, and holds less.
func TestTradeWithOneself(t *testing.T) {
	h := rich(t)
	done(t, h, 1, buy(1, 1, 5, 20), sell(1, 2, 3, 10))
	has(t, h, 1, 1000, 100)
	done(t, h, 1, tick())
	has(t, h, 1, 1000, 40)
	hasGood(t, h, 1, 1, 80, 0)
	wantMarket(t, h, 1, api.Order{Id: 17, Owner: 1, Price: 20, Amount: 2, Place: 1, Buys: true})
}

// 9.1: many small orders of one side meet one of the other; what each pays and gets hangs on no other.
func TestClearingOfMany(t *testing.T) {
	h := rich(t)
	done(t, h, 0, sell(0, 0, 20, 4))
	for i := range 7 {
		done(t, h, 1+i%3, buy(0, i, 1+i%3, 10-i))
	}
	done(t, h, 0, tick())
	// 13 pieces are bought by seven orders, all of them at 4 or above: the lowest price at which most is traded.
	has(t, h, 0, 1052, 0)
	hasGood(t, h, 0, 0, 37, 7)
	has(t, h, 1, 988, 0)
	hasGood(t, h, 1, 0, 53, 0)
	has(t, h, 2, 984, 0)
	hasGood(t, h, 2, 0, 54, 0)
	has(t, h, 3, 976, 0)
	hasGood(t, h, 3, 0, 56, 0)
	wantMarket(t, h, 0, api.Order{Id: 0, Owner: 0, Price: 4, Amount: 7, Place: 1})
}
