package house

import "gavel/api"

// Now is how many ticks there were.
func (h *House) Now() int {
	if !h.made() {
		return 0
	}
	return h.now
}

// Account is what a client has.
func (h *House) Account(who int) (api.Account, bool) {
	if !h.made() {
		return api.Account{}, false
	}
	return h.accounts.Account(who)
}

// Last is a client's last stamp, and its reply.
func (h *House) Last(who int) (int, string) {
	if !h.made() {
		return 0, ""
	}
	return h.accounts.Last(who)
}

// Totals are all cash, and all of each good.
func (h *House) Totals() (cash int, goods [api.MaxGoods]int) {
	if !h.made() {
		return cash, goods
	}
	return h.accounts.Totals()
}

// Market is the orders of a good, by their places.
func (h *House) Market(good int) []api.Order {
	if !h.made() || !h.has(good) {
		return nil
	}
	return h.markets[good].Orders()
}

// Auction is the clock auction of a good: its bytes, and who sells; false: there is none.
func (h *House) Auction(good int) (string, int, bool) {
	if !h.made() || !h.has(good) || h.sales[good] == nil {
		return "", 0, false
	}
	s := h.sales[good]
	return s.Bytes(), s.seller, true
}
