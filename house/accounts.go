package house

import "gavel/api"

func (h *House) pay(who int, o api.Op) api.Errno { return h.accounts.Pay(who, o.Amount) }

func (h *House) take(who int, o api.Op) api.Errno { return h.accounts.Take(who, o.Amount) }

func (h *House) store(who int, o api.Op) api.Errno { return h.accounts.Store(who, o.Good, o.Amount) }

func (h *House) fetch(who int, o api.Op) api.Errno { return h.accounts.Fetch(who, o.Good, o.Amount) }

// money stands where else a good does, as cash is held in the way in which goods are locked.
const money = -1

// free is how much of a thing a client has that is neither held nor locked.
func (h *House) free(who, thing int) int {
	a, _ := h.accounts.Account(who)
	if thing == money {
		return a.Cash - a.Held
	}
	return a.Goods[thing] - a.Locked[thing]
}

// bind holds or locks so much more of a thing; so much less, if n is below 0. Who calls it has seen that it is there: the ledger refuses 0 alone, which changes nothing.
func (h *House) bind(who, thing, n int) {
	switch {
	case thing == money && n > 0:
		h.accounts.Hold(who, n)
	case thing == money:
		h.accounts.Free(who, -n)
	case n > 0:
		h.accounts.Lock(who, thing, n)
	default:
		h.accounts.Unlock(who, thing, -n)
	}
}

// trade hands pieces that the seller has locked to the buyer, who pays the price of each out of what it holds. Of no pieces, or at no price, the ledger refuses to move anything.
func (h *House) trade(good, seller, buyer, pieces, price int) {
	h.accounts.Move(buyer, seller, pieces*price)
	h.accounts.Hand(seller, buyer, good, pieces)
}
