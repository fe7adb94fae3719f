package house_test

import (
	"math"
	"testing"

	"gavel/api"
	"gavel/ledger"
)

// 9.3: of each client, and of none.
func TestAccountAndLast(t *testing.T) {
	h := of(t, 3, 2, standing().records())
	want := []api.Account{
		{Cash: 1000, Held: 500, Goods: [4]int{20, 6}, Locked: [4]int{0, 5}},
		{Cash: 100, Held: 40, Goods: [4]int{7, 0}, Locked: [4]int{4, 0}},
		{Cash: 60, Held: 50},
	}
	lasts := []last{{9, "\x00\x03"}, {2, "\x3d\x00"}, {}}
	for who := range 3 {
		if a, ok := h.Account(who); !ok || a != want[who] {
			t.Errorf("Account(%d) = %+v, %v, want %+v", who, a, ok, want[who])
		}
		if stamp, reply := h.Last(who); stamp != lasts[who].stamp || reply != lasts[who].reply {
			t.Errorf("Last(%d) = %d, %q, want %+v", who, stamp, reply, lasts[who])
		}
	}
	for _, who := range beside(3) {
		if a, ok := h.Account(who); ok || a != (api.Account{}) {
			t.Errorf("Account(%d) = %+v, %v", who, a, ok)
		}
		if stamp, reply := h.Last(who); stamp != 0 || reply != "" {
			t.Errorf("Last(%d) = %d, %q", who, stamp, reply)
		}
	}
	if cash, goods := h.Totals(); cash != 1160 || goods != [4]int{27, 6} {
		t.Errorf("Totals() = %d, %v", cash, goods)
	}
}

// 9.3: they are the ledger's, behind the same calls.
func TestAsTheLedger(t *testing.T) {
	h := newHouse(t, 2, 2)
	x, _ := ledger.New(2, 2)
	done(t, h, 0, pay(50), store(1, 9), take(20))
	done(t, h, 1, store(0, 4), fetch(0, 1))
	x.Pay(0, 30)
	x.Store(1, 0, 3)
	x.Store(0, 1, 9)
	x.Mark(0, 3, "\x00\x00")
	x.Mark(1, 2, "\x00\x00")
	for who := -1; who <= 3; who++ {
		a, ok := h.Account(who)
		b, there := x.Account(who)
		if a != b || ok != there {
			t.Errorf("Account(%d) = %+v, %v, want %+v, %v", who, a, ok, b, there)
		}
		s1, r1 := h.Last(who)
		s2, r2 := x.Last(who)
		if s1 != s2 || r1 != r2 {
			t.Errorf("Last(%d) = %d, %q, want %d, %q", who, s1, r1, s2, r2)
		}
	}
	cash, goods := h.Totals()
	if c, g := x.Totals(); cash != c || goods != g {
		t.Errorf("Totals() = %d, %v, want %d, %v", cash, goods, c, g)
	}
}

// 9.4: of each good, and of none.
func TestMarketAndAuction(t *testing.T) {
	s := standing()
	h := of(t, 3, 2, s.records())
	for good := range 2 {
		wantMarket(t, h, good, s.books[good].orders...)
	}
	noAuction(t, h, 0)
	wantAuction(t, h, 1, 0, 5, 10, 2, 2, 0, 3, 0, 0, 4, 3, 3, 3)
	for _, good := range []int{-1, 2, 3, 4, 5, math.MinInt, math.MaxInt} {
		wantMarket(t, h, good)
		noAuction(t, h, good)
	}
}

// 9.4: orders are told by their places, though an amended one goes behind.
func TestMarketByPlaces(t *testing.T) {
	h := rich(t)
	done(t, h, 1, buy(0, 3, 1, 1), buy(0, 1, 1, 1), buy(0, 2, 1, 1), amend(0, 1, 1, 2))
	wantMarket(t, h, 0,
		api.Order{Id: 49, Owner: 1, Price: 1, Amount: 1, Place: 1, Buys: true},
		api.Order{Id: 33, Owner: 1, Price: 1, Amount: 1, Place: 3, Buys: true},
		api.Order{Id: 17, Owner: 1, Price: 2, Amount: 1, Place: 4, Buys: true})
}

// 9.3, 9.4, 9.5: what is told is not kept, and shares no memory with what is told later.
func TestToldIsNotKept(t *testing.T) {
	h := of(t, 3, 2, standing().records())
	before := tell(h)
	for good := range 2 {
		l := h.Market(good)
		for i := range l[:cap(l)] {
			l[:cap(l)][i] = api.Order{Id: 77, Price: 77, Amount: 77}
		}
	}
	l := h.Records()
	for i := range l[:cap(l)] {
		l[:cap(l)][i] = api.Record{Key: "x", Value: "y"}
	}
	a, _ := h.Account(0)
	a.Goods[0], a.Cash = 99, 99
	_, goods := h.Totals()
	goods[0] = 99
	wantTold(t, "behind changes of what was told", tell(h), before)
	done(t, h, 0, tick())
}
