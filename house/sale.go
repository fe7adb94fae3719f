package house

import (
	"gavel/api"
	"gavel/clock"
	"gavel/quote"
)

// sale is a good's clock auction, whose bidders are the clients, and who of them sells.
type sale struct {
	*clock.Auction
	seller int
}

// holds is how much cash is held of a bidder. What it wanted in the round ahead counts too, since it may come to pay for that.
func (s *sale) holds(who int) int {
	was, now := s.Wants(who)
	return max(was*s.Last(), now*s.Price())
}

func (h *House) offer(who int, o api.Op) api.Errno {
	if !h.has(o.Good) {
		return api.ErrArg
	}
	start, e := quote.Ticks(o.Price, Shift)
	if e != api.OK {
		return e
	}
	a, e := clock.New(o.Amount, start, o.Side, h.clients)
	if e != api.OK {
		return e
	}
	if h.sales[o.Good] != nil {
		return api.ErrThere
	}
	if h.free(who, o.Good) < o.Amount {
		return api.ErrPoor
	}
	h.bind(who, o.Good, o.Amount)
	h.sales[o.Good] = &sale{Auction: a, seller: who}
	return api.OK
}

func (h *House) want(who int, o api.Op) api.Errno {
	if !h.has(o.Good) || o.Amount > api.MaxLot {
		return api.ErrArg
	}
	s := h.sales[o.Good]
	if s == nil {
		return api.ErrNone
	}
	if s.seller == who {
		return api.ErrOwner
	}
	_, before := s.Wants(who)
	held := s.holds(who)
	if e := s.Bid(who, o.Amount); e != api.OK {
		return e
	}
	more := s.holds(who) - held
	if h.free(who, money) < more {
		s.Bid(who, before)
		return api.ErrPoor
	}
	h.bind(who, money, more)
	return api.OK
}

// endRound ends the round of a good's clock auction.
func (h *House) endRound(good int) {
	s := h.sales[good]
	held := make([]int, h.clients)
	for who := range held {
		held[who] = s.holds(who)
	}
	if over, _ := s.Next(); over {
		h.close(good, held)
		return
	}
	for who, n := range held {
		h.cut(s, who, n)
	}
}

// close sells what is wanted, and lets go what is left.
func (h *House) close(good int, held []int) {
	s := h.sales[good]
	price, gets, _ := s.Sale() // it is over
	left := s.Supply()
	for who, n := range gets {
		h.trade(good, s.seller, who, n, price)
		h.bind(who, money, n*price-held[who])
		left -= n
	}
	h.bind(s.seller, good, -left)
	h.sales[good] = nil
}

// cut lets a bidder want no more than it can pay for at the new price, which is not 0, as it was raised.
func (h *House) cut(s *sale, who, held int) {
	most := (h.free(who, money) + held) / s.Price()
	if _, now := s.Wants(who); now > most {
		s.Bid(who, most)
	}
	h.bind(who, money, s.holds(who)-held)
}
