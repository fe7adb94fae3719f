package house_test

import (
	"slices"
	"testing"

	"gavel/api"
	"gavel/house"
	"gavel/wire"
)

// outcome is what came of a request.
type outcome struct {
	kind int
	code api.Errno
}

// sound: nothing is below 0, nobody holds more than there is, and accounts tell what their records do.
func sound(t *testing.T, h *house.House, m *model) {
	t.Helper()
	cash, goods := 0, [4]int{}
	for who := range m.clients {
		a, ok := h.Account(who)
		if !ok || a.Held < 0 || a.Held > a.Cash {
			t.Fatalf("client %d has %+v, %v", who, a, ok)
		}
		cash += a.Cash
		for good := range 4 {
			if a.Locked[good] < 0 || a.Locked[good] > a.Goods[good] || good >= m.goods && a.Goods[good] != 0 {
				t.Fatalf("client %d has %+v", who, a)
			}
			goods[good] += a.Goods[good]
		}
	}
	if c, g := h.Totals(); c != cash || g != goods {
		t.Fatalf("Totals() = %d, %v, want %d, %v", c, g, cash, goods)
	}
}

// cleared: no market has a buyer who would pay what a seller asks.
func cleared(t *testing.T, h *house.House, goods int) {
	t.Helper()
	for good := range goods {
		for _, x := range h.Market(good) {
			for _, y := range h.Market(good) {
				if x.Buys && !y.Buys && x.Price >= y.Price {
					t.Fatalf("behind a tick %+v and %+v stand in market %d", x, y, good)
				}
			}
		}
	}
}

// conserved: by what was done cash and goods in all were changed by Pay, Take, Store and Fetch alone.
func conserved(t *testing.T, o api.Op, code api.Errno, before, now told) {
	t.Helper()
	cash, goods := before.cash, before.goods
	if code == api.OK {
		switch o.Kind {
		case house.Pay:
			cash += o.Amount
		case house.Take:
			cash -= o.Amount
		case house.Store:
			goods[o.Good] += o.Amount
		case house.Fetch:
			goods[o.Good] -= o.Amount
		}
	}
	if now.cash != cash || now.goods != goods {
		t.Fatalf("behind %+v there are %d, %v, want %d, %v", o, now.cash, now.goods, cash, goods)
	}
}

// unchanged: but for a client's stamp and reply all is as it was.
func unchanged(t *testing.T, who int, before, now told) {
	t.Helper()
	before.lasts[who], before.records[who] = now.lasts[who], now.records[who]
	wantTold(t, "behind a request that was refused", now, before)
}

// someStamp is mostly the one behind the client's last one.
func someStamp(h *house.House, who int, dice func(int) int) int {
	ahead, _ := h.Last(who)
	switch dice(40) {
	case 0:
		return ahead
	case 1:
		return ahead - 1
	case 2:
		return []int{0, -5, most + 1}[dice(3)]
	case 3:
		return ahead + 1 + dice(9)
	}
	return ahead + 1
}

// step does one request of a house and its model, and asks for all that the chapter promises.
func step(t *testing.T, h *house.House, m *model, dice func(int) int, counts map[outcome]int) {
	t.Helper()
	who := dice(m.clients)
	if dice(50) == 0 {
		who = []int{-1, m.clients, 16}[dice(3)]
	}
	stamp, o := someStamp(h, who, dice), someOp(dice, m.goods)
	op := bytesOf(t, o)
	if dice(50) == 0 {
		op = op[:dice(len(op))]
		o = api.Op{}
	}
	before := tell(h)
	reply, e := h.Do(who, stamp, op)
	wantReply, wantE := m.do(who, stamp, op)
	if reply != wantReply || e != wantE {
		t.Fatalf("Do(%d, %d, %+v) = %q, %d, want %q, %d in\n%+v", who, stamp, o, reply, e, wantReply, wantE, m)
	}
	now := tell(h)
	if want := m.records(); !slices.Equal(now.records, want) {
		t.Fatalf("behind %+v of %d, answered %q:\n%q, want\n%q", o, who, reply, now.records, want)
	}
	if e != api.OK {
		counts[outcome{-1, e}]++
		wantTold(t, "behind a request that was not heard", now, before)
		return
	}
	code, _, _ := wire.GetInt(reply, 0)
	counts[outcome{o.Kind, api.Errno(code)}]++
	sound(t, h, m)
	conserved(t, o, api.Errno(code), before, now)
	switch {
	case code != 0:
		unchanged(t, who, before, now)
	case o.Kind == house.Tick:
		cleared(t, h, m.goods)
	}
	if _, e := h.Do(who, stamp, op); e != api.ErrStale {
		t.Fatalf("the stamp %d of %d once more: %d", stamp, who, e)
	}
	wantTold(t, "behind a stamp that came twice", tell(h), now)
}

// 9.1 to 9.6: many requests, good and bad, each of them against the model; houses are read anew in between.
func TestManyRequests(t *testing.T) {
	counts := map[outcome]int{}
	rounds, sales := 0, 0
	for seed, size := range [][2]int{{1, 1}, {2, 1}, {3, 1}, {3, 2}, {4, 2}, {16, 4}, {5, 3}, {3, 1}, {2, 2}, {6, 1}} {
		clients, goods := size[0], size[1]
		dice := chance(uint32(seed) + 5)
		m := newModel(clients, goods)
		if seed%4 == 3 { // near the end of the time and of the places
			m.now = end - 9
			m.books[0].next = end - 30
		}
		h := of(t, clients, goods, m.records())
		for n := range 3000 {
			ahead := slices.Clone(m.clocks)
			step(t, h, m, dice, counts)
			if t.Failed() {
				t.Fatalf("of %d clients and %d goods, in step %d", clients, goods, n)
			}
			for _, c := range m.clocks {
				rounds = max(rounds, c.round)
			}
			sales += max(0, len(ahead)-len(m.clocks))
			if dice(20) == 0 {
				h = of(t, clients, goods, h.Records())
			}
		}
	}
	for _, want := range wantedOutcomes() {
		if counts[want] == 0 {
			t.Errorf("%+v did not come of any request: %v", want, counts)
		}
	}
	if rounds < 4 || sales < 100 {
		t.Errorf("auctions went to the round %d, %d were over", rounds, sales)
	}
}

// wantedOutcomes are all that the table tells of each kind; of -1, why there is no reply.
func wantedOutcomes() []outcome {
	prices := []api.Errno{api.ErrNaN, api.ErrInf, api.ErrSign, api.ErrTick, api.ErrRange}
	orders := append([]api.Errno{api.OK, api.ErrArg, api.ErrPoor, api.ErrFull}, prices...)
	var l []outcome
	for kind, codes := range map[int][]api.Errno{
		-1:           {api.ErrAccount, api.ErrArg, api.ErrStale},
		0:            {api.ErrOp},
		house.Tick:   {api.OK, api.ErrFull},
		house.Pay:    {api.OK, api.ErrArg, api.ErrOver},
		house.Take:   {api.OK, api.ErrArg, api.ErrPoor},
		house.Store:  {api.OK, api.ErrArg, api.ErrOver},
		house.Fetch:  {api.OK, api.ErrArg, api.ErrPoor},
		house.Offer:  append([]api.Errno{api.OK, api.ErrArg, api.ErrThere, api.ErrPoor}, prices...),
		house.Want:   {api.OK, api.ErrArg, api.ErrNone, api.ErrOwner, api.ErrRise, api.ErrPoor},
		house.Put:    append([]api.Errno{api.ErrThere}, orders...),
		house.Amend:  append([]api.Errno{api.ErrNone}, orders...),
		house.Cancel: {api.OK, api.ErrArg, api.ErrNone},
		11:           {api.ErrOp},
	} {
		for _, code := range codes {
			l = append(l, outcome{kind, code})
		}
	}
	return l
}

// 9.6: each request that is refused, of a house with all there can be in it, changes nothing but its client's stamp and reply.
func TestRefusedChangesNothing(t *testing.T) {
	h := of(t, 3, 2, standing().records())
	for who := range 3 {
		for _, o := range []api.Op{{}, pay(0), take(1001), store(2, 1), fetch(0, 21), offer(1, 1, 1, 1), offer(0, 21, 1, 1), want(1, lot), want(0, 1), buy(0, 1, lot, lot), sell(1, 2, 9, 9), amend(0, 2, 1, 1), amend(0, 1, lot, lot), cancel(0, 2)} {
			before := tell(h)
			code, _ := ask(t, h, who, o)
			if code == api.OK || code == api.ErrOp && o.Kind != 0 {
				t.Errorf("%+v of %d: %d", o, who, code)
			}
			unchanged(t, who, before, tell(h))
		}
	}
}

// 9.6: houses do not know each other.
func TestTwoHouses(t *testing.T) {
	a, b := of(t, 3, 2, standing().records()), of(t, 3, 2, standing().records())
	before := tell(b)
	done(t, a, 0, tick(), pay(7), cancel(0, 1), store(0, 3), offer(0, 2, 1, 1))
	done(t, a, 1, want(0, 1), tick())
	wantTold(t, "another house", tell(b), before)
}
