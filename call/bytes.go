package call

import (
	"strings"

	"gavel/api"
	"gavel/wire"
)

// A book's bytes are its head (the next place, how many orders), and of each order six numbers.
const (
	head       = 2
	row        = 6
	maxNumbers = head + row*api.MaxOrders
)

// How an order's side is laid.
const (
	buying  = 0
	selling = 1
)

// Bytes lays a book.
func (b *Book) Bytes() string {
	if !b.made() {
		return ""
	}
	l := []int{b.next, len(b.orders)}
	for _, o := range b.orders {
		l = append(l, o.Id, o.Owner, sideOf(o), o.Price, o.Amount, o.Place)
	}
	var out strings.Builder
	for _, n := range l {
		s, _ := wire.PutInt(n) // no Id and no place is above 2^53
		out.WriteString(s)
	}
	return out.String()
}

// Of reads a book.
func Of(s string) (*Book, api.Errno) {
	l, ok := numbersOf(s)
	if !ok || len(l) < head || len(l) != head+row*l[head-1] {
		return nil, api.ErrState
	}
	b := &Book{next: l[0]}
	for at := head; at < len(l); at += row {
		o, ok := orderOf(l[at : at+row])
		if !ok || !b.takes(o) {
			return nil, api.ErrState
		}
		b.orders = append(b.orders, o)
	}
	if !b.made() {
		return nil, api.ErrState
	}
	return b, api.OK
}

// numbersOf are the numbers that a text is laid of; false, if it is laid of something else, or of more than a book has.
func numbersOf(s string) ([]int, bool) {
	var l []int
	for at := 0; at < len(s); {
		n, next, e := wire.GetInt(s, at)
		if e != api.OK || len(l) == maxNumbers {
			return nil, false
		}
		l = append(l, n)
		at = next
	}
	return l, true
}

func sideOf(o api.Order) int {
	if o.Buys {
		return buying
	}
	return selling
}

// orderOf is the order of six numbers; false, if its side is none.
func orderOf(l []int) (api.Order, bool) {
	o := api.Order{Id: l[0], Owner: l[1], Buys: l[2] == buying, Price: l[3], Amount: l[4], Place: l[5]}
	return o, l[2] == sideOf(o)
}

// takes tells whether an order may stand behind those that were read.
func (b *Book) takes(o api.Order) bool {
	last := 0
	if n := len(b.orders); n > 0 {
		last = b.orders[n-1].Place
	}
	return mayBe(o) && b.find(o.Id) < 0 && last < o.Place && o.Place < b.next
}
