package house_test

import (
	"strconv"

	"gavel/api"
)

// sheet is a state, written down as plain numbers. What is held stands in it, whether it is right or not.
type sheet struct {
	accounts []account
	books    []book
	clocks   []clockOf
	now      int
}

type account struct {
	stamp, cash, held int
	goods, locked     []int
	reply             string
}

type book struct {
	next   int
	orders []api.Order
}

// clockOf is the auction of a good; demands: of each client the one ahead, and the one now.
type clockOf struct {
	good, seller, supply, start, step, round, state int
	demands                                         [][2]int
}

// records lays a sheet as chapter 9 says.
func (s sheet) records() []api.Record {
	var l []api.Record
	for who, a := range s.accounts {
		value := laid(a.stamp, a.cash, a.held) + laid(a.goods...) + laid(a.locked...) + laid(len(a.reply)) + a.reply
		l = append(l, api.Record{Key: "acct/" + strconv.Itoa(who/10) + strconv.Itoa(who%10), Value: value})
	}
	for good, b := range s.books {
		value := laid(b.next, len(b.orders))
		for _, o := range b.orders {
			side := 1
			if o.Buys {
				side = 0
			}
			value += laid(o.Id, o.Owner, side, o.Price, o.Amount, o.Place)
		}
		l = append(l, api.Record{Key: "book/" + strconv.Itoa(good), Value: value})
	}
	for _, c := range s.clocks {
		value := laid(c.seller, c.supply, c.start, c.step, c.round, c.state, len(c.demands))
		for _, d := range c.demands {
			value += laid(d[0], d[1])
		}
		l = append(l, api.Record{Key: "clock/" + strconv.Itoa(c.good), Value: value})
	}
	return append(l, api.Record{Key: "now", Value: laid(s.now)})
}

// empty is the sheet of a house in which nothing has happened.
func empty(clients, goods int) sheet {
	var s sheet
	for range clients {
		s.accounts = append(s.accounts, account{goods: make([]int, goods), locked: make([]int, goods)})
	}
	for range goods {
		s.books = append(s.books, book{next: 1})
	}
	return s
}

// standing is three clients and two goods: orders of both, and an auction of good 1 in its second round, at the price 12.
func standing() sheet {
	return sheet{
		accounts: []account{
			{stamp: 9, cash: 1000, held: 500, goods: []int{20, 6}, locked: []int{0, 5}, reply: laid(0, 3)},
			{stamp: 2, cash: 100, held: 40, goods: []int{7, 0}, locked: []int{4, 0}, reply: laid(61, 0)},
			{cash: 60, held: 50, goods: []int{0, 0}, locked: []int{0, 0}},
		},
		books: []book{
			{next: 5, orders: []api.Order{
				{Id: 16, Owner: 0, Price: 100, Amount: 5, Place: 1, Buys: true},
				{Id: 16*7 + 1, Owner: 1, Price: 120, Amount: 4, Place: 3},
			}},
			{next: 2, orders: []api.Order{{Id: 2, Owner: 2, Price: 7, Amount: 2, Place: 1, Buys: true}}},
		},
		clocks: []clockOf{{good: 1, seller: 0, supply: 5, start: 10, step: 2, round: 2, demands: [][2]int{{0, 0}, {4, 3}, {3, 3}}}},
		now:    300,
	}
}
