package house_test

import (
	"math"
	"slices"

	"gavel/api"
	"gavel/call"
	"gavel/clock"
	"gavel/house"
	"gavel/quote"
	"gavel/wire"
)

// model is a house by the words of the chapter: what is held is not kept, but reckoned from orders and demands whenever it is asked for. In its sheet held and locked are filled in by records alone.
type model struct {
	sheet
	clients, goods int
}

func newModel(clients, goods int) *model {
	return &model{sheet: empty(clients, goods), clients: clients, goods: goods}
}

// auction is a good's, nil, if it has none.
func (m *model) auction(good int) *clockOf {
	for i := range m.clocks {
		if m.clocks[i].good == good {
			return &m.clocks[i]
		}
	}
	return nil
}

func (c *clockOf) price() int { return c.start + (c.round-1)*c.step }

// holds is what is held of a bidder.
func (c *clockOf) holds(who int) int {
	d := c.demands[who]
	ahead := 0
	if c.round > 1 {
		ahead = d[0] * (c.price() - c.step)
	}
	return max(ahead, d[1]*c.price())
}

func (m *model) held(who int) int {
	n := 0
	for _, b := range m.books {
		for _, o := range b.orders {
			if o.Owner == who && o.Buys {
				n += o.Price * o.Amount
			}
		}
	}
	for _, c := range m.clocks {
		n += c.holds(who)
	}
	return n
}

func (m *model) locked(who, good int) int {
	n := 0
	for _, o := range m.books[good].orders {
		if o.Owner == who && !o.Buys {
			n += o.Amount
		}
	}
	if c := m.auction(good); c != nil && c.seller == who {
		n += c.supply
	}
	return n
}

func (m *model) freeCash(who int) int { return m.accounts[who].cash - m.held(who) }

func (m *model) freeGoods(who, good int) int {
	return m.accounts[who].goods[good] - m.locked(who, good)
}

// records fills in what is held, and lays the sheet.
func (m *model) records() []api.Record {
	for who := range m.accounts {
		m.accounts[who].held = m.held(who)
		for good := range m.goods {
			m.accounts[who].locked[good] = m.locked(who, good)
		}
	}
	return m.sheet.records()
}

// do is what Do answers.
func (m *model) do(who, stamp int, op string) (string, api.Errno) {
	switch {
	case who < 0 || who >= m.clients:
		return "", api.ErrAccount
	case stamp < 1 || stamp > most:
		return "", api.ErrArg
	case stamp <= m.accounts[who].stamp:
		return "", api.ErrStale
	}
	code, value := api.ErrOp, 0
	if o, e := wire.OfOp(op); e == api.OK {
		code, value = m.request(who, o)
	}
	reply := laid(int(code), value)
	m.accounts[who].stamp, m.accounts[who].reply = stamp, reply
	return reply, api.OK
}

func (m *model) request(who int, o api.Op) (api.Errno, int) {
	switch o.Kind {
	case house.Tick:
		if m.now == end {
			return api.ErrFull, 0
		}
		m.tick()
		return api.OK, m.now
	case house.Pay, house.Take:
		return m.cash(who, o), 0
	case house.Store, house.Fetch:
		return m.pieces(who, o), 0
	case house.Offer:
		return m.offer(who, o), 0
	case house.Want:
		return m.want(who, o), 0
	case house.Put, house.Amend:
		return m.order(who, o), 0
	case house.Cancel:
		return m.cancel(who, o), 0
	}
	return api.ErrOp, 0
}

func (m *model) cash(who int, o api.Op) api.Errno {
	all := 0
	for _, a := range m.accounts {
		all += a.cash
	}
	switch {
	case o.Amount < 1 || o.Amount > most:
		return api.ErrArg
	case o.Kind == house.Pay && all+o.Amount > most:
		return api.ErrOver
	case o.Kind == house.Take && m.freeCash(who) < o.Amount:
		return api.ErrPoor
	case o.Kind == house.Pay:
		m.accounts[who].cash += o.Amount
	default:
		m.accounts[who].cash -= o.Amount
	}
	return api.OK
}

func (m *model) pieces(who int, o api.Op) api.Errno {
	if o.Good >= m.goods || o.Amount < 1 || o.Amount > most {
		return api.ErrArg
	}
	all := 0
	for _, a := range m.accounts {
		all += a.goods[o.Good]
	}
	switch {
	case o.Kind == house.Store && all+o.Amount > most:
		return api.ErrOver
	case o.Kind == house.Fetch && m.freeGoods(who, o.Good) < o.Amount:
		return api.ErrPoor
	case o.Kind == house.Store:
		m.accounts[who].goods[o.Good] += o.Amount
	default:
		m.accounts[who].goods[o.Good] -= o.Amount
	}
	return api.OK
}

func (m *model) offer(who int, o api.Op) api.Errno {
	if o.Good >= m.goods {
		return api.ErrArg
	}
	start, e := quote.Ticks(o.Price, 6)
	switch {
	case e != api.OK:
		return e
	case o.Amount < 1 || o.Amount > lot || o.Side < 1 || o.Side > most:
		return api.ErrArg
	case m.auction(o.Good) != nil:
		return api.ErrThere
	case m.freeGoods(who, o.Good) < o.Amount:
		return api.ErrPoor
	}
	m.clocks = append(m.clocks, clockOf{good: o.Good, seller: who, supply: o.Amount, start: start, step: o.Side, round: 1, demands: make([][2]int, m.clients)})
	slices.SortFunc(m.clocks, func(a, b clockOf) int { return a.good - b.good })
	return api.OK
}

func (m *model) want(who int, o api.Op) api.Errno {
	if o.Good >= m.goods || o.Amount > lot {
		return api.ErrArg
	}
	c := m.auction(o.Good)
	switch {
	case c == nil:
		return api.ErrNone
	case c.seller == who:
		return api.ErrOwner
	case c.round > 1 && o.Amount > c.demands[who][0]:
		return api.ErrRise
	}
	d := &c.demands[who]
	before := d[1]
	if d[1] = o.Amount; m.freeCash(who) < 0 {
		d[1] = before
		return api.ErrPoor
	}
	return api.OK
}

// place is where a client's order of an Id stands; below 0, if there is none.
func (m *model) place(who int, o api.Op) int {
	return slices.IndexFunc(m.books[o.Good].orders, func(x api.Order) bool { return x.Id == 16*o.Id+who })
}

// order puts or amends: the orders are written down as they would be, and taken back if more would be held than there is.
func (m *model) order(who int, o api.Op) api.Errno {
	if o.Good >= m.goods || o.Side > 1 || o.Id > lot || o.Amount < 1 || o.Amount > lot {
		return api.ErrArg
	}
	ticks, e := quote.Ticks(o.Price, 6)
	if e != api.OK {
		return e
	}
	b, i := &m.books[o.Good], m.place(who, o)
	x := api.Order{Id: 16*o.Id + who, Owner: who, Price: ticks, Amount: o.Amount, Place: b.next, Buys: o.Side == 0}
	before := book{next: b.next, orders: slices.Clone(b.orders)}
	b.next++
	if o.Kind == house.Amend {
		if i < 0 {
			*b = before
			return api.ErrNone
		}
		old := b.orders[i]
		b.orders = slices.Delete(b.orders, i, i+1)
		x.Buys = old.Buys
		if x.Price == old.Price && x.Amount <= old.Amount {
			x.Place, b.next = old.Place, before.next
		}
	}
	b.orders = append(b.orders, x)
	slices.SortFunc(b.orders, func(x, y api.Order) int { return x.Place - y.Place })
	e = api.OK
	switch {
	case m.freeCash(who) < 0 || m.freeGoods(who, o.Good) < 0:
		e = api.ErrPoor
	case o.Kind == house.Put && i >= 0:
		e = api.ErrThere
	case len(b.orders) > 64 || b.next > end:
		e = api.ErrFull
	}
	if e != api.OK {
		*b = before
	}
	return e
}

func (m *model) cancel(who int, o api.Op) api.Errno {
	if o.Good >= m.goods || o.Id > lot {
		return api.ErrArg
	}
	i := m.place(who, o)
	if i < 0 {
		return api.ErrNone
	}
	b := &m.books[o.Good]
	b.orders = slices.Delete(b.orders, i, i+1)
	return api.OK
}

func (m *model) tick() {
	m.now++
	for good := range m.goods {
		m.clear(good)
		if c := m.auction(good); c != nil && m.endRound(c) {
			m.clocks = slices.DeleteFunc(m.clocks, func(x clockOf) bool { return x.good == good })
		}
	}
}

// clear fills orders at one price; layer 8 tells which.
func (m *model) clear(good int) {
	b := &m.books[good]
	ticks, amount := call.Cross(b.orders)
	for _, f := range call.Fills(b.orders, ticks, amount) {
		o := &b.orders[slices.IndexFunc(b.orders, func(x api.Order) bool { return x.Id == f.Id })]
		o.Amount -= f.Amount
		n := f.Amount
		if !o.Buys {
			n = -n
		}
		m.accounts[o.Owner].goods[good] += n
		m.accounts[o.Owner].cash -= n * ticks
	}
	b.orders = slices.DeleteFunc(b.orders, func(x api.Order) bool { return x.Amount == 0 })
}

// endRound tells whether the auction is over.
func (m *model) endRound(c *clockOf) bool {
	wanted := 0
	for _, d := range c.demands {
		wanted += d[1]
	}
	switch {
	case wanted <= c.supply:
		m.sell(c, c.supply-wanted)
		return true
	case c.price()+c.step > most:
		return true
	}
	next := c.price() + c.step
	for who := range c.demands {
		can := (m.freeCash(who) + c.holds(who)) / next
		d := &c.demands[who]
		d[0] = d[1]
		d[1] = min(d[1], can)
	}
	c.round++
	return false
}

// sell hands over what is wanted, and what is left, if there was a round ahead.
func (m *model) sell(c *clockOf, left int) {
	ticks := c.price()
	gaps := make([]int, m.clients)
	if c.round > 1 && left > 0 {
		ticks -= c.step
		for who, d := range c.demands {
			gaps[who] = d[0] - d[1]
		}
		gaps, _ = clock.Shares(left, gaps)
	}
	for who, d := range c.demands {
		n := d[1] + gaps[who]
		m.accounts[who].goods[c.good] += n
		m.accounts[who].cash -= n * ticks
		m.accounts[c.seller].goods[c.good] -= n
		m.accounts[c.seller].cash += n * ticks
	}
}

// somePrice is mostly one that may be.
func somePrice(dice func(int) int) float64 {
	switch dice(40) {
	case 0:
		return [...]float64{math.NaN(), math.Inf(1), -1, 0.3, price(most + 1)}[dice(5)]
	case 1:
		return price(most - dice(2))
	}
	return price(dice(24))
}

// someOp is a request, mostly one that may be.
func someOp(dice func(int) int, goods int) api.Op {
	kinds := []int{1, 2, 2, 3, 4, 4, 5, 6, 6, 7, 7, 7, 7, 7, 8, 8, 8, 8, 8, 8, 9, 9, 9, 10}
	o := api.Op{Kind: kinds[dice(len(kinds))], Good: dice(goods), Amount: dice(13), Side: dice(2), Id: dice(6), Price: somePrice(dice)}
	switch {
	case o.Kind == house.Pay:
		o.Amount *= 20
	case o.Kind == house.Take:
		o.Amount *= 5
	case o.Kind == house.Offer:
		o.Side = 1 + dice(4)
	}
	switch dice(60) {
	case 0:
		o.Kind = dice(13)
	case 1:
		o.Good += dice(3)
	case 2:
		o.Amount = []int{0, lot, lot + 1, most, most + 1, end, most - 1000}[dice(7)]
	case 3:
		o.Side = []int{0, 1, 2, most, most + 1, end}[dice(6)]
	case 4:
		o.Id = []int{lot, lot + 1, end}[dice(3)]
	}
	return o
}
