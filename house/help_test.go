package house_test

import (
	"math"
	"reflect"
	"testing"

	"gavel/api"
	"gavel/house"
	"gavel/wire"
)

const (
	lot  = 1 << 20 // the greatest amount of an order, a demand or a supply, and the greatest Id
	most = 1 << 40 // the greatest price in ticks, stamp, and amount of cash or a good
	end  = 1 << 53 // the greatest time, and the place at which a book is out of them
)

// price is the price of so many ticks.
func price(ticks int) float64 { return float64(ticks) / 64 }

func tick() api.Op { return api.Op{Kind: house.Tick} }

func pay(n int) api.Op { return api.Op{Kind: house.Pay, Amount: n} }

func take(n int) api.Op { return api.Op{Kind: house.Take, Amount: n} }

func store(good, n int) api.Op { return api.Op{Kind: house.Store, Good: good, Amount: n} }

func fetch(good, n int) api.Op { return api.Op{Kind: house.Fetch, Good: good, Amount: n} }

func offer(good, n, start, step int) api.Op {
	return api.Op{Kind: house.Offer, Good: good, Amount: n, Price: price(start), Side: step}
}

func want(good, n int) api.Op { return api.Op{Kind: house.Want, Good: good, Amount: n} }

func buy(good, id, n, ticks int) api.Op {
	return api.Op{Kind: house.Put, Good: good, Id: id, Amount: n, Price: price(ticks)}
}

func sell(good, id, n, ticks int) api.Op {
	return api.Op{Kind: house.Put, Good: good, Side: 1, Id: id, Amount: n, Price: price(ticks)}
}

func amend(good, id, n, ticks int) api.Op {
	return api.Op{Kind: house.Amend, Good: good, Id: id, Amount: n, Price: price(ticks)}
}

func cancel(good, id int) api.Op { return api.Op{Kind: house.Cancel, Good: good, Id: id} }

// with is a request, changed.
func with(o api.Op, change func(o *api.Op)) api.Op {
	change(&o)
	return o
}

// at is a request with another price.
func at(x float64, o api.Op) api.Op {
	o.Price = x
	return o
}

// badPrices are prices that are refused, and why.
func badPrices() map[float64]api.Errno {
	return map[float64]api.Errno{
		math.NaN():                   api.ErrNaN,
		math.Inf(1):                  api.ErrInf,
		math.Inf(-1):                 api.ErrInf,
		-1:                           api.ErrSign,
		-math.SmallestNonzeroFloat64: api.ErrSign,
		0.3:                          api.ErrTick,
		1.0 / 128:                    api.ErrTick,
		price(most + 1):              api.ErrRange,
		math.MaxFloat64:              api.ErrRange,
	}
}

func newHouse(t *testing.T, clients, goods int) *house.House {
	t.Helper()
	h, e := house.New(clients, goods)
	if h == nil || e != api.OK {
		t.Fatalf("New(%d, %d) = %v, %d", clients, goods, h, e)
	}
	return h
}

func of(t *testing.T, clients, goods int, l []api.Record) *house.House {
	t.Helper()
	h, e := house.Of(clients, goods, l)
	if h == nil || e != api.OK {
		t.Fatalf("Of(%d, %d, %q) = %v, %d", clients, goods, l, h, e)
	}
	return h
}

func bytesOf(t *testing.T, o api.Op) string {
	t.Helper()
	s, e := wire.PutOp(o)
	if e != api.OK {
		t.Fatalf("PutOp(%+v) = %d", o, e)
	}
	return s
}

// askBytes does a request by its bytes, under the client's next stamp: the reply's two numbers.
func askBytes(t *testing.T, h *house.House, who int, op string) (api.Errno, int) {
	t.Helper()
	last, _ := h.Last(who)
	reply, e := h.Do(who, last+1, op)
	if e != api.OK {
		t.Fatalf("Do(%d, %d, %q) = %d", who, last+1, op, e)
	}
	code, next, e1 := wire.GetInt(reply, 0)
	value, behind, e2 := wire.GetInt(reply, next)
	if e1 != api.OK || e2 != api.OK || behind != len(reply) {
		t.Fatalf("Do(%d, %d, %q) = %q, which is not two numbers", who, last+1, op, reply)
	}
	if s, r := h.Last(who); s != last+1 || r != reply {
		t.Fatalf("behind stamp %d and reply %q Last(%d) = %d, %q", last+1, reply, who, s, r)
	}
	return api.Errno(code), value
}

func ask(t *testing.T, h *house.House, who int, o api.Op) (api.Errno, int) {
	t.Helper()
	return askBytes(t, h, who, bytesOf(t, o))
}

// done: a client's requests are done, one by one.
func done(t *testing.T, h *house.House, who int, l ...api.Op) {
	t.Helper()
	for _, o := range l {
		value := 0
		if o.Kind == house.Tick {
			value = h.Now() + 1
		}
		if e, n := ask(t, h, who, o); e != api.OK || n != value {
			t.Fatalf("%+v of %d: %d, %d, want 0, %d", o, who, e, n, value)
		}
	}
}

// refusedBytes: a request is refused so, and changes nothing but its client's stamp and reply.
func refusedBytes(t *testing.T, h *house.House, what string, who int, op string, want api.Errno) {
	t.Helper()
	before := tell(h)
	if e, n := askBytes(t, h, who, op); e != want || n != 0 {
		t.Errorf("%s: %d, %d, want %d, 0", what, e, n, want)
	}
	now := tell(h)
	// askBytes asked for these.
	before.lasts[who], before.records[who] = now.lasts[who], now.records[who]
	if !reflect.DeepEqual(now, before) {
		t.Errorf("%s was refused and changed\n%+v\nto\n%+v", what, before, now)
	}
}

func refused(t *testing.T, h *house.House, what string, who int, o api.Op, want api.Errno) {
	t.Helper()
	refusedBytes(t, h, what, who, bytesOf(t, o), want)
}

type last struct {
	stamp int
	reply string
}

type auction struct {
	bytes  string
	seller int
	on     bool
}

// told is all that a house tells.
type told struct {
	now      int
	accounts map[int]api.Account
	lasts    map[int]last
	cash     int
	goods    [4]int
	markets  map[int][]api.Order
	auctions map[int]auction
	records  []api.Record
}

// beside are numbers of which none is one of the first n.
func beside(n int) []int {
	return []int{-1, n, n + 1, 16, 17, math.MinInt, math.MaxInt}
}

func tell(h *house.House) told {
	x := told{now: h.Now(), accounts: map[int]api.Account{}, lasts: map[int]last{}, markets: map[int][]api.Order{}, auctions: map[int]auction{}, records: h.Records()}
	x.cash, x.goods = h.Totals()
	for who := -1; who <= 17; who++ {
		if a, ok := h.Account(who); ok {
			x.accounts[who] = a
		}
		if stamp, reply := h.Last(who); stamp != 0 || reply != "" {
			x.lasts[who] = last{stamp, reply}
		}
	}
	for good := -1; good <= 5; good++ {
		if l := h.Market(good); len(l) > 0 {
			x.markets[good] = l
		}
		if bytes, seller, on := h.Auction(good); bytes != "" || seller != 0 || on {
			x.auctions[good] = auction{bytes, seller, on}
		}
	}
	return x
}

func wantTold(t *testing.T, what string, got, want told) {
	t.Helper()
	if !reflect.DeepEqual(got, want) {
		t.Errorf("%s:\n%+v, want\n%+v", what, got, want)
	}
}

// has: a client has so much cash, so much of it held.
func has(t *testing.T, h *house.House, who, cash, held int) {
	t.Helper()
	if a, ok := h.Account(who); !ok || a.Cash != cash || a.Held != held {
		t.Errorf("client %d has %d, %d of it held, want %d, %d", who, a.Cash, a.Held, cash, held)
	}
}

// hasGood: a client has so many pieces of a good, so many of them locked.
func hasGood(t *testing.T, h *house.House, who, good, pieces, locked int) {
	t.Helper()
	if a, ok := h.Account(who); !ok || a.Goods[good] != pieces || a.Locked[good] != locked {
		t.Errorf("client %d has %d of %d, %d of it locked, want %d, %d", who, a.Goods[good], good, a.Locked[good], pieces, locked)
	}
}

// wantMarket: just these orders stand.
func wantMarket(t *testing.T, h *house.House, good int, want ...api.Order) {
	t.Helper()
	got := h.Market(good)
	if len(got) != len(want) || len(got) > 0 && !reflect.DeepEqual(got, want) {
		t.Errorf("market %d:\n%+v, want\n%+v", good, got, want)
	}
}

// wantAuction: a good has an auction of these numbers: supply, start, step, round, state, bidders, and two of each bidder.
func wantAuction(t *testing.T, h *house.House, good, seller int, numbers ...int) {
	t.Helper()
	if s, who, on := h.Auction(good); s != laid(numbers...) || who != seller || !on {
		t.Errorf("auction %d: %v, %d, %v, want %v, %d", good, []byte(s), who, on, numbers, seller)
	}
}

func noAuction(t *testing.T, h *house.House, good int) {
	t.Helper()
	if s, who, on := h.Auction(good); s != "" || who != 0 || on {
		t.Errorf("auction %d: %q, %d, %v, want none", good, s, who, on)
	}
}

// chance is a row of numbers that looks like chance and is always the same.
func chance(seed uint32) func(n int) int {
	return func(n int) int {
		seed = seed*1664525 + 1013904223
		return int(seed>>8) % n
	}
}

// laid is numbers to the base 128, the lowest digit first.
func laid(numbers ...int) string {
	var out []byte
	for _, n := range numbers {
		for ; n > 127; n /= 128 {
			out = append(out, byte(n%128+128))
		}
		out = append(out, byte(n))
	}
	return string(out)
}
