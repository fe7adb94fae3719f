package ledger_test

import (
	"math"
	"testing"

	"gavel/api"
	"gavel/ledger"
)

// 6.1
func TestNewRefuses(t *testing.T) {
	noClients := []int{0, -1, 17, 18, 255, math.MinInt, math.MaxInt}
	noGoods := []int{0, -1, 5, 6, 16, math.MinInt, math.MaxInt}
	refused := func(clients, goods int) {
		t.Helper()
		if x, e := ledger.New(clients, goods); x != nil || e != api.ErrArg {
			t.Errorf("New(%d, %d) = %v, %d", clients, goods, x, e)
		}
	}
	for _, clients := range noClients {
		for goods := 1; goods <= 4; goods++ {
			refused(clients, goods)
		}
		for _, goods := range noGoods {
			refused(clients, goods)
		}
	}
	for clients := 1; clients <= 16; clients++ {
		for _, goods := range noGoods {
			refused(clients, goods)
		}
	}
}

// 6.1
func TestNewIsEmpty(t *testing.T) {
	for clients := 1; clients <= 16; clients++ {
		for goods := 1; goods <= 4; goods++ {
			x := newLedger(t, clients, goods)
			for who := range clients {
				wantAccount(t, x, who, api.Account{})
				wantLast(t, x, who, 0, "")
			}
			for _, who := range beside(clients) {
				if a, ok := x.Account(who); ok || a != (api.Account{}) {
					t.Errorf("of %d clients number %d has %v, %v", clients, who, a, ok)
				}
			}
			wantTotals(t, x, 0, [4]int{})
		}
	}
}

// 6.1: just the clients and goods that New was given are there.
func TestWhoAndWhatIsThere(t *testing.T) {
	for clients := 1; clients <= 16; clients++ {
		for goods := 1; goods <= 4; goods++ {
			x := newLedger(t, clients, goods)
			for who := range clients {
				each(t, x.Pay(who, 2), x.Hold(who, 1), x.Move(who, clients-1, 1), x.Mark(who, 1, "r"))
				for good := range goods {
					each(t, x.Store(who, good, 2), x.Lock(who, good, 1), x.Hand(who, clients-1, good, 1))
				}
			}
			for _, who := range beside(clients) {
				for _, c := range append(callsOf(who, 0, 0, 1), callsOf(who, who, 0, 1)...) {
					c.refused(t, x, api.ErrAccount)
				}
			}
			for _, good := range beside(goods) {
				for _, c := range callsOf(0, 0, good, 1) {
					if c.goods {
						c.refused(t, x, api.ErrArg)
					}
				}
			}
		}
	}
}

// 6.1
func TestNoSuchClient(t *testing.T) {
	x := rich(t)
	for _, who := range beside(3) {
		for _, good := range []int{0, 1, -1, 2, 4, math.MaxInt} { // who is asked ahead of the good
			for _, n := range append([]int{1, most}, noAmounts...) { // and ahead of the amount
				for _, c := range callsOf(who, 0, good, n) {
					c.refused(t, x, api.ErrAccount)
				}
				for _, c := range callsOf(0, who, good, n) {
					if c.two {
						c.refused(t, x, api.ErrAccount)
					}
				}
				for _, c := range callsOf(who, who, good, n) {
					c.refused(t, x, api.ErrAccount)
				}
			}
		}
	}
}

// 6.1
func TestNoSuchGood(t *testing.T) {
	x := rich(t)
	for _, good := range []int{-1, 2, 3, 4, 5, math.MinInt, math.MaxInt} {
		for _, n := range append([]int{1, most}, noAmounts...) { // a good that is not there is none to be poor of
			for _, c := range append(callsOf(0, 1, good, n), callsOf(2, 2, good, n)...) {
				if c.goods {
					c.refused(t, x, api.ErrArg)
				}
			}
		}
	}
}

// 6.1: what is no amount is so ahead of being more than there is, or than there may be.
func TestNoAmount(t *testing.T) {
	for _, x := range []*ledger.Ledger{newLedger(t, 3, 2), rich(t)} {
		for _, n := range noAmounts {
			for _, c := range append(callsOf(0, 1, 1, n), callsOf(2, 2, 0, n)...) {
				c.refused(t, x, api.ErrArg)
			}
		}
	}
}

// 6.1, 6.2: each call takes the least and the greatest amount.
func TestAmounts(t *testing.T) {
	for _, n := range []int{1, most} {
		x := newLedger(t, 2, 2)
		each(t, x.Pay(0, n), x.Hold(0, n), x.Free(0, n), x.Hold(0, n), x.Move(0, 1, n), x.Take(1, n))
		each(t, x.Store(0, 1, n), x.Lock(0, 1, n), x.Unlock(0, 1, n), x.Lock(0, 1, n), x.Hand(0, 1, 1, n), x.Fetch(1, 1, n))
		for who := range 2 {
			wantAccount(t, x, who, api.Account{})
		}
		wantTotals(t, x, 0, [4]int{})
	}
}

// 6.1: the greatest amount is one: what refuses it is what there is.
func TestGreatestAmountIsRefusedForWhatThereIs(t *testing.T) {
	x := rich(t)
	for _, c := range append(callsOf(0, 1, 1, most), callsOf(2, 2, 0, most)...) {
		want := api.ErrPoor
		if c.name == "Pay" || c.name == "Store" {
			want = api.ErrOver
		}
		c.refused(t, x, want)
	}
}

// 6.3
func TestTotals(t *testing.T) {
	x := rich(t)
	wantTotals(t, x, 303, [4]int{33, 93})
	each(t, x.Take(0, 60), x.Fetch(1, 0, 5), x.Pay(2, 1), x.Store(2, 1, 7))
	wantTotals(t, x, 244, [4]int{28, 100})
	each(t, x.Move(1, 2, 41), x.Hand(2, 0, 1, 17), x.Free(0, 1), x.Unlock(0, 1, 1))
	wantTotals(t, x, 244, [4]int{28, 100})
	y := newLedger(t, 2, 4)
	for good := range 4 {
		each(t, y.Store(0, good, good+1), y.Store(1, good, 10))
	}
	wantTotals(t, y, 0, [4]int{11, 12, 13, 14})
}

// 6.3
func TestAccount(t *testing.T) {
	x := rich(t)
	wantAccount(t, x, 0, api.Account{Cash: 100, Held: 40, Goods: [4]int{10, 30}, Locked: [4]int{5, 15}})
	wantAccount(t, x, 2, api.Account{Cash: 102, Held: 42, Goods: [4]int{12, 32}, Locked: [4]int{7, 17}})
	for _, who := range beside(3) {
		if a, ok := x.Account(who); ok || a != (api.Account{}) {
			t.Errorf("account %d = %v, %v", who, a, ok)
		}
	}
}

// R3: what is answered is no longer the ledger's.
func TestAccountIsACopy(t *testing.T) {
	x := rich(t)
	a, _ := x.Account(0)
	a.Cash, a.Goods[0] = 1, 1
	_, goods := x.Totals()
	goods[0] = 1
	wantAccount(t, x, 0, api.Account{Cash: 100, Held: 40, Goods: [4]int{10, 30}, Locked: [4]int{5, 15}})
	b, _ := x.Account(1)
	each(t, x.Pay(1, 1), x.Store(1, 1, 1))
	if b.Cash != 101 || b.Goods[1] != 31 {
		t.Errorf("an answer changed with the ledger: %v", b)
	}
}

// The chapter's example, and the sixth of the whole.
func TestExample(t *testing.T) {
	x := newLedger(t, 2, 1)
	each(t, x.Pay(0, 9), x.Hold(0, 5))
	if e := x.Take(0, 5); e != api.ErrPoor {
		t.Errorf("Take(0, 5): %d", e)
	}
	each(t, x.Move(0, 1, 3))
	wantAccount(t, x, 0, api.Account{Cash: 6, Held: 2})
	wantAccount(t, x, 1, api.Account{Cash: 3})
}

// 6.7
func TestLedgersThatNobodyMade(t *testing.T) {
	for name, x := range map[string]*ledger.Ledger{"nil": nil, "zero": {}, "new": new(ledger.Ledger)} {
		for range 2 { // no call makes it a ledger
			for _, who := range []int{0, 1, -1, 15, 16, math.MaxInt} {
				for _, n := range append([]int{1, most}, noAmounts...) {
					for _, c := range append(callsOf(who, 0, 0, n), callsOf(0, who, -1, n)...) {
						c.refused(t, x, api.ErrArg)
					}
					if e := x.Mark(who, n, "r"); e != api.ErrArg {
						t.Errorf("%s: Mark: %d", name, e)
					}
				}
				if a, ok := x.Account(who); ok || a != (api.Account{}) {
					t.Errorf("%s: account %v, %v", name, a, ok)
				}
				wantLast(t, x, who, 0, "")
			}
			wantTotals(t, x, 0, [4]int{})
			if l := x.Records(); len(l) != 0 {
				t.Errorf("%s: records %v", name, l)
			}
		}
	}
}
