package house

import (
	"strconv"

	"gavel/api"
	"gavel/call"
	"gavel/clock"
	"gavel/ledger"
	"gavel/wire"
)

// keyNow is the key of the time.
const keyNow = "now"

func keyOfBook(good int) string { return "book/" + strconv.Itoa(good) }

func keyOfSale(good int) string { return "clock/" + strconv.Itoa(good) }

// Records are the whole state, by rising keys.
func (h *House) Records() []api.Record {
	if !h.made() {
		return nil
	}
	l := h.accounts.Records()
	for good, book := range h.markets {
		l = append(l, api.Record{Key: keyOfBook(good), Value: book.Bytes()})
	}
	for good, s := range h.sales {
		if s != nil {
			seller, _ := wire.PutInt(s.seller) // a client
			l = append(l, api.Record{Key: keyOfSale(good), Value: seller + s.Bytes()})
		}
	}
	now, _ := wire.PutInt(h.now) // time stands still at the greatest number
	return append(l, api.Record{Key: keyNow, Value: now})
}

// Of is the house of records.
func Of(clients, goods int, l []api.Record) (*House, api.Errno) {
	h, e := New(clients, goods)
	if e != api.OK {
		return nil, e
	}
	if !h.read(l) || !h.balanced() {
		return nil, api.ErrState
	}
	return h, api.OK
}

// read takes over what records tell; false, if they are not laid as a house's, or a part of it may not be.
func (h *House) read(l []api.Record) bool {
	books, sales, now := h.clients, h.clients+len(h.markets), len(l)-1
	if now < sales {
		return false
	}
	return h.readAccounts(l[:books]) && h.readBooks(l[books:sales]) && h.readSales(l[sales:now]) && h.readNow(l[now])
}

func (h *House) readAccounts(l []api.Record) bool {
	accounts, e := ledger.Of(h.clients, len(h.markets), l)
	h.accounts = accounts
	return e == api.OK
}

func (h *House) readBooks(l []api.Record) bool {
	for good, r := range l {
		book, e := call.Of(r.Value)
		if e != api.OK || r.Key != keyOfBook(good) {
			return false
		}
		for _, o := range book.Orders() {
			if o.Owner >= h.clients || o.Id/api.MaxClients > MaxId || o.Id%api.MaxClients != o.Owner {
				return false
			}
		}
		h.markets[good] = book
	}
	return true
}

func (h *House) readSales(l []api.Record) bool {
	for good := range h.sales {
		if len(l) == 0 || l[0].Key != keyOfSale(good) {
			continue
		}
		s, ok := h.saleOf(l[0].Value)
		if !ok {
			return false
		}
		h.sales[good] = s
		l = l[1:]
	}
	return len(l) == 0
}

// saleOf is the sale of a value; false, if there can be none such.
func (h *House) saleOf(value string) (*sale, bool) {
	seller, at, e := wire.GetInt(value, 0)
	if e != api.OK || seller >= h.clients {
		return nil, false
	}
	a, e := clock.Of(value[at:])
	if e != api.OK || a.State() != clock.Open || !bidders(a, h.clients) {
		return nil, false
	}
	was, now := a.Wants(seller)
	return &sale{Auction: a, seller: seller}, was == 0 && now == 0
}

// bidders tells whether an auction has just so many. An auction does not tell how many it has, but whose bid it takes: the last one's is bid once more as it is, and one behind it must be refused.
func bidders(a *clock.Auction, n int) bool {
	_, now := a.Wants(n - 1)
	return a.Bid(n-1, now) == api.OK && a.Bid(n, 0) != api.OK
}

func (h *House) readNow(r api.Record) bool {
	now, end, e := wire.GetInt(r.Value, 0)
	h.now = now
	return e == api.OK && end == len(r.Value) && r.Key == keyNow
}

// balanced tells whether just as much is held and locked of each account as the orders and auctions let be.
func (h *House) balanced() bool {
	for who := range h.clients {
		a, _ := h.accounts.Account(who)
		if a.Held != h.held(who) {
			return false
		}
		for good := range h.markets {
			if a.Locked[good] != h.locked(who, good) {
				return false
			}
		}
	}
	return true
}

// held is how much cash a client's orders and demands hold.
func (h *House) held(who int) int {
	all := 0
	// What many orders hold together could wrap: once it is above what there may be at all, it stays so.
	add := func(n int) { all = min(all+n, api.MaxAmount+1) }
	for good, s := range h.sales {
		for _, o := range h.Market(good) {
			if o.Owner == who && o.Buys {
				add(o.Price * o.Amount)
			}
		}
		if s != nil {
			add(s.holds(who))
		}
	}
	return all
}

// locked is how much of a good a client sells.
func (h *House) locked(who, good int) int {
	all := 0
	for _, o := range h.Market(good) {
		if o.Owner == who && !o.Buys {
			all += o.Amount
		}
	}
	if s := h.sales[good]; s != nil && s.seller == who {
		all += s.Supply()
	}
	return all
}
