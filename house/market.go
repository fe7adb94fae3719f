package house

import (
	"gavel/api"
	"gavel/quote"
)

// How an order's side is asked for.
const (
	buying  = 0
	selling = 1
)

func (h *House) put(who int, o api.Op) api.Errno {
	x, e := h.orderOf(who, o)
	if e != api.OK {
		return e
	}
	thing, n := binds(o.Good, x)
	if h.free(who, thing) < n {
		return api.ErrPoor
	}
	if e := h.markets[o.Good].Put(x); e != api.OK {
		return e
	}
	h.bind(who, thing, n)
	return api.OK
}

// amend leaves the order on the side on which it stands, whichever one is named.
func (h *House) amend(who int, o api.Op) api.Errno {
	x, e := h.orderOf(who, o)
	if e != api.OK {
		return e
	}
	book := h.markets[o.Good]
	old, ok := book.Get(x.Id)
	if !ok {
		return api.ErrNone
	}
	x.Buys = old.Buys
	thing, n := binds(o.Good, x)
	_, bound := binds(o.Good, old)
	if h.free(who, thing) < n-bound {
		return api.ErrPoor
	}
	if e := book.Amend(x.Id, who, x.Price, x.Amount); e != api.OK {
		return e
	}
	h.bind(who, thing, n-bound)
	return api.OK
}

func (h *House) cancel(who int, o api.Op) api.Errno {
	if !h.has(o.Good) || o.Id > MaxId {
		return api.ErrArg
	}
	book := h.markets[o.Good]
	x, ok := book.Get(numberOf(who, o.Id))
	if !ok {
		return api.ErrNone
	}
	book.Cancel(x.Id, who)
	thing, n := binds(o.Good, x)
	h.bind(who, thing, -n)
	return api.OK
}

// orderOf is the order that a request tells of, or why it may not be.
func (h *House) orderOf(who int, o api.Op) (api.Order, api.Errno) {
	if !h.has(o.Good) || !within(o.Side, buying, selling) || o.Id > MaxId || !within(o.Amount, 1, api.MaxLot) {
		return api.Order{}, api.ErrArg
	}
	price, e := quote.Ticks(o.Price, Shift)
	if e != api.OK {
		return api.Order{}, e
	}
	return api.Order{Id: numberOf(who, o.Id), Owner: who, Price: price, Amount: o.Amount, Buys: o.Side == buying}, api.OK
}

// numberOf is an order's number in the book: no two clients have one in common, so that nobody's order is found but the own.
func numberOf(who, id int) int { return api.MaxClients*id + who }

// binds is what an order lets be held or locked while it stands, and how much of it.
func binds(good int, o api.Order) (thing, n int) {
	if o.Buys {
		return money, o.Price * o.Amount
	}
	return good, o.Amount
}

// clear trades what can be traded in a good's market, at one price.
func (h *House) clear(good int) {
	limits := map[int]int{} // of the buying orders, which may be gone behind the clearing
	for _, o := range h.Market(good) {
		if o.Buys {
			limits[o.Id] = o.Price
		}
	}
	price, _, fills := h.markets[good].Clear()
	var buys, sells []api.Fill
	for _, f := range fills {
		if limit, ok := limits[f.Id]; ok {
			h.bind(f.Owner, money, (price-limit)*f.Amount)
			buys = append(buys, f)
		} else {
			sells = append(sells, f)
		}
	}
	h.settle(good, price, buys, sells)
}

// settle lets buyers and sellers trade. Who trades with whom does not matter, since all do so at one price; as much is bought as is sold.
func (h *House) settle(good, price int, buys, sells []api.Fill) {
	for len(buys) > 0 {
		n := min(buys[0].Amount, sells[0].Amount)
		h.trade(good, sells[0].Owner, buys[0].Owner, n, price)
		buys, sells = less(buys, n), less(sells, n)
	}
}

// less is fills without n pieces of the first one.
func less(l []api.Fill, n int) []api.Fill {
	l[0].Amount -= n
	if l[0].Amount == 0 {
		return l[1:]
	}
	return l
}
