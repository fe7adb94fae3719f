package house_test

import (
	"math"
	"reflect"
	"strings"
	"testing"

	"gavel/api"
	"gavel/house"
)

// The constants' values are the document's.
func TestConstants(t *testing.T) {
	got := [...]int{house.Tick, house.Pay, house.Take, house.Store, house.Fetch, house.Offer, house.Want, house.Put, house.Amend, house.Cancel, house.Shift, house.MaxId}
	if want := [...]int{1, 2, 3, 4, 5, 6, 7, 8, 9, 10, 6, 1 << 20}; got != want {
		t.Errorf("%v, want %v", got, want)
	}
}

// 9.1: a house of empty accounts.
func TestNew(t *testing.T) {
	for clients := 1; clients <= 16; clients++ {
		for goods := 1; goods <= 4; goods++ {
			x := tell(newHouse(t, clients, goods))
			want := told{accounts: map[int]api.Account{}, lasts: map[int]last{}, markets: map[int][]api.Order{}, auctions: map[int]auction{}, records: empty(clients, goods).records()}
			for who := range clients {
				want.accounts[who] = api.Account{}
			}
			wantTold(t, "a new house", x, want)
		}
	}
}

// 9.1
func TestNewIsRefused(t *testing.T) {
	for _, n := range [][2]int{{0, 1}, {17, 1}, {-1, 1}, {math.MinInt, 1}, {math.MaxInt, 1}, {1, 0}, {1, 5}, {1, -1}, {1, math.MinInt}, {1, math.MaxInt}, {0, 0}, {17, 5}} {
		if h, e := house.New(n[0], n[1]); h != nil || e != api.ErrArg {
			t.Errorf("New(%d, %d) = %v, %d", n[0], n[1], h, e)
		}
	}
}

// unheard: a call of Do is refused, and changes nothing at all.
func unheard(t *testing.T, h *house.House, who, stamp int, op string, want api.Errno) {
	t.Helper()
	before := tell(h)
	if reply, e := h.Do(who, stamp, op); reply != "" || e != want {
		t.Errorf("Do(%d, %d, %q) = %q, %d, want %d", who, stamp, op, reply, e, want)
	}
	wantTold(t, "behind a request that is not heard", tell(h), before)
}

// 9.1: no such client; the stamp's edges; a stamp that is not above the last one.
func TestDoIsRefused(t *testing.T) {
	h := of(t, 3, 2, standing().records())
	ops := []string{bytesOf(t, pay(1)), bytesOf(t, tick()), bytesOf(t, pay(0)), "", "x"}
	for _, op := range ops {
		for _, who := range beside(3) {
			for _, stamp := range []int{10, 1, 0, -1, most, most + 1} {
				unheard(t, h, who, stamp, op, api.ErrAccount)
			}
		}
		for _, stamp := range []int{0, -1, most + 1, math.MinInt, math.MaxInt} {
			for who := range 3 {
				unheard(t, h, who, stamp, op, api.ErrArg)
			}
		}
		for _, stamp := range []int{1, 2, 8, 9} {
			unheard(t, h, 0, stamp, op, api.ErrStale)
		}
		unheard(t, h, 1, 2, op, api.ErrStale)
		unheard(t, h, 1, 1, op, api.ErrStale)
	}
}

// 9.1: stamps from 1 to 2^40, each client's for itself, with gaps.
func TestStamps(t *testing.T) {
	h := newHouse(t, 2, 1)
	op := bytesOf(t, pay(5))
	cash := 0
	for _, stamp := range []int{1, 2, 7, most - 1, most} {
		if reply, e := h.Do(1, stamp, op); reply != "\x00\x00" || e != api.OK {
			t.Fatalf("at %d: %q, %d", stamp, reply, e)
		}
		cash += 5
		has(t, h, 1, cash, 0)
		if s, r := h.Last(1); s != stamp || r != "\x00\x00" {
			t.Errorf("Last(1) = %d, %q, want %d", s, r, stamp)
		}
		if s, r := h.Last(0); s != 0 || r != "" {
			t.Errorf("Last(0) = %d, %q", s, r)
		}
		unheard(t, h, 1, stamp, op, api.ErrStale)
	}
	unheard(t, h, 1, most+1, op, api.ErrArg)
	if _, e := h.Do(0, 1, op); e != api.OK {
		t.Errorf("the first stamp of 0: %d", e)
	}
}

// 9.1: stamp and reply are noted also where the request is refused, so that the stamp takes effect once.
func TestRefusedIsNoted(t *testing.T) {
	h := newHouse(t, 1, 1)
	reply, e := h.Do(0, 4, bytesOf(t, take(5)))
	if reply != "\x3d\x00" || e != api.OK {
		t.Fatalf("%q, %d", reply, e)
	}
	if s, r := h.Last(0); s != 4 || r != reply {
		t.Errorf("Last(0) = %d, %q", s, r)
	}
	unheard(t, h, 0, 4, bytesOf(t, pay(5)), api.ErrStale)
	done(t, h, 0, pay(5), take(5))
}

// 9.1: bytes that are no op.
func TestNoOp(t *testing.T) {
	h := of(t, 3, 2, standing().records())
	for kind := 1; kind <= 10; kind++ {
		s := bytesOf(t, api.Op{Kind: kind, Amount: 300})
		for n := range len(s) {
			refusedBytes(t, h, "a beginning", 0, s[:n], api.ErrOp)
		}
		refusedBytes(t, h, "a byte more", 0, s+"\x00", api.ErrOp)
		refusedBytes(t, h, "a byte ahead", 0, "\x80\x00"+s[1:], api.ErrOp)
		refusedBytes(t, h, "too long", 0, s+strings.Repeat("\x00", 257-len(s)), api.ErrOp)
		refusedBytes(t, h, "much too long", 0, strings.Repeat(s, 100), api.ErrOp)
	}
	refusedBytes(t, h, "nothing", 0, "", api.ErrOp)
	refusedBytes(t, h, "a text", 1, "tick", api.ErrOp)
}

// 9.1: another Kind.
func TestNoKind(t *testing.T) {
	h := of(t, 3, 2, standing().records())
	for _, kind := range []int{0, 11, 12, 16, 128, 257, 1 << 32, 1<<32 + 1, end} {
		refused(t, h, "no such kind", 0, api.Op{Kind: kind, Amount: 1}, api.ErrOp)
		refused(t, h, "no such kind, and no such good", 1, api.Op{Kind: kind, Good: end, Amount: end, Side: end, Id: end, Price: math.NaN()}, api.ErrOp)
	}
}

// 9.1: fields that a row of the table does not name are not looked at.
func TestOtherFields(t *testing.T) {
	wild := func(o api.Op) api.Op {
		o.Good, o.Amount, o.Side, o.Id, o.Price = end, end, end, end, math.NaN()
		return o
	}
	for _, x := range []struct {
		o     api.Op
		named func(to *api.Op, o api.Op)
	}{
		{tick(), func(to *api.Op, o api.Op) {}},
		{pay(3), func(to *api.Op, o api.Op) { to.Amount = o.Amount }},
		{take(3), func(to *api.Op, o api.Op) { to.Amount = o.Amount }},
		{store(1, 3), func(to *api.Op, o api.Op) { to.Good, to.Amount = o.Good, o.Amount }},
		{fetch(0, 3), func(to *api.Op, o api.Op) { to.Good, to.Amount = o.Good, o.Amount }},
		{offer(0, 3, 7, 2), func(to *api.Op, o api.Op) { to.Good, to.Amount, to.Price, to.Side = o.Good, o.Amount, o.Price, o.Side }},
		{want(1, 3), func(to *api.Op, o api.Op) { to.Good, to.Amount = o.Good, o.Amount }},
		{buy(0, 3, 1, 7), func(to *api.Op, o api.Op) { *to = o }},
		{amend(0, 7, 1, 7), func(to *api.Op, o api.Op) { *to = o }},
		{cancel(0, 7), func(to *api.Op, o api.Op) { to.Good, to.Id = o.Good, o.Id }},
	} {
		a, b := of(t, 3, 2, standing().records()), of(t, 3, 2, standing().records())
		done(t, a, 1, x.o)
		other := wild(x.o)
		x.named(&other, x.o)
		done(t, b, 1, other)
		wantTold(t, "with wild fields that are not named", tell(b), tell(a))
	}
}

// 9.1, 9.2: the time goes on by ticks that are done, whoever asks for them; the reply's value is the time.
func TestTime(t *testing.T) {
	h := newHouse(t, 2, 1)
	for n := 1; n <= 300; n++ {
		who := n % 2
		ahead, _ := h.Last(who)
		stamp := ahead + 1
		reply, e := h.Do(who, stamp, bytesOf(t, tick()))
		if reply != "\x00"+laid(n) || e != api.OK {
			t.Fatalf("tick %d: %q, %d", n, reply, e)
		}
		if h.Now() != n {
			t.Fatalf("Now() = %d, want %d", h.Now(), n)
		}
		unheard(t, h, who, stamp, bytesOf(t, tick()), api.ErrStale)
		refusedBytes(t, h, "no op", 0, "", api.ErrOp)
		done(t, h, 1, pay(1))
		if h.Now() != n {
			t.Fatalf("Now() = %d behind other requests, want %d", h.Now(), n)
		}
	}
}

// 9.1: a Tick at a time of 2^53 is refused, and clears nothing and ends no round.
func TestEndOfTime(t *testing.T) {
	s := standing()
	s.now = end - 1
	s.books[0].orders[0].Price, s.books[0].orders[1].Price = 100, 100
	h := of(t, 3, 2, s.records())
	refused(t, h, "no client has so much", 2, take(1000), api.ErrPoor)
	done(t, h, 2, tick())
	if h.Now() != end {
		t.Fatalf("Now() = %d", h.Now())
	}
	if _, r := h.Last(2); r != "\x00"+laid(end) {
		t.Errorf("the last tick's reply: %q", r)
	}
	s.now = end
	h = of(t, 3, 2, s.records())
	for who := range 3 {
		refused(t, h, "time is over", who, tick(), api.ErrFull)
	}
	done(t, h, 0, pay(5), cancel(0, 1))
}

// The chapter's example.
func TestExample(t *testing.T) {
	h := newHouse(t, 2, 1)
	done(t, h, 0, pay(6400))
	done(t, h, 1, store(0, 5))
	done(t, h, 0, at(2.0, buy(0, 1, 5, 0)))
	done(t, h, 1, at(1.5, sell(0, 1, 3, 0)))
	done(t, h, 0, tick())
	has(t, h, 0, 6112, 256)
	hasGood(t, h, 0, 0, 3, 0)
	has(t, h, 1, 288, 0)
	hasGood(t, h, 1, 0, 2, 0)
	wantMarket(t, h, 0, api.Order{Id: 16, Owner: 0, Price: 128, Amount: 2, Place: 1, Buys: true})
}

// 9.7: a house that there is not, or that no call made.
func TestNoHouse(t *testing.T) {
	var none *house.House
	for _, h := range []*house.House{none, {}, new(house.House)} {
		for _, who := range []int{0, 1, -1, 16} {
			for _, stamp := range []int{1, 0, most + 1} {
				for _, op := range []string{bytesOf(t, pay(1)), bytesOf(t, tick()), ""} {
					if reply, e := h.Do(who, stamp, op); reply != "" || e != api.ErrArg {
						t.Errorf("Do(%d, %d, %q) = %q, %d", who, stamp, op, reply, e)
					}
				}
			}
		}
		nothing := told{accounts: map[int]api.Account{}, lasts: map[int]last{}, markets: map[int][]api.Order{}, auctions: map[int]auction{}}
		if x := tell(h); !reflect.DeepEqual(x, nothing) {
			t.Errorf("no house tells %+v", x)
		}
	}
}
