package ledger_test

import (
	"testing"

	"gavel/api"
	"gavel/ledger"
)

// wantGood: a client has so much of a good, so much of it locked, and nothing else.
func wantGood(t *testing.T, x *ledger.Ledger, who, good, there, locked int) {
	t.Helper()
	var a api.Account
	a.Goods[good], a.Locked[good] = there, locked
	wantAccount(t, x, who, a)
}

// 6.2
func TestStore(t *testing.T) {
	for good := range 4 {
		x := newLedger(t, 3, 4)
		each(t, x.Store(0, good, 5), x.Store(0, good, 2), x.Store(1, good, 1))
		wantGood(t, x, 0, good, 7, 0)
		wantGood(t, x, 1, good, 1, 0)
		callOf("Store", 2, 0, good, most-7).refused(t, x, api.ErrOver)
		callOf("Store", 0, 0, good, most-7).refused(t, x, api.ErrOver)
		each(t, x.Store(2, good, most-8))
		for who := range 3 {
			callOf("Store", who, 0, good, 1).refused(t, x, api.ErrOver)
			callOf("Store", who, 0, good, most).refused(t, x, api.ErrOver)
		}
		each(t, x.Lock(2, good, 9), x.Hand(2, 1, good, 9)) // goods that are handed or locked stay in all there is
		callOf("Store", 0, 0, good, 1).refused(t, x, api.ErrOver)
		each(t, x.Store(0, (good+1)%4, most), x.Pay(0, most), x.Fetch(0, good, 3)) // each good is counted for itself
		callOf("Store", 0, 0, good, 4).refused(t, x, api.ErrOver)
		each(t, x.Store(1, good, 3))
		wantGood(t, x, 1, good, 13, 0)
	}
}

// 6.2
func TestStoreAtOnce(t *testing.T) {
	x := newLedger(t, 16, 4)
	for good := range 4 {
		each(t, x.Store(15-good, good, most))
		wantGood(t, x, 15-good, good, most, 0)
		callOf("Store", 0, 0, good, 1).refused(t, x, api.ErrOver)
		callOf("Store", 0, 0, good, most).refused(t, x, api.ErrOver)
	}
	wantTotals(t, x, 0, [4]int{most, most, most, most})
}

// 6.2
func TestFetch(t *testing.T) {
	for good := range 4 {
		x := newLedger(t, 2, 4)
		each(t, x.Pay(0, 70), x.Take(0, 70), x.Store(1, (good+1)%4, 70), x.Fetch(1, (good+1)%4, 70))
		callOf("Fetch", 0, 0, good, 1).refused(t, x, api.ErrPoor)
		each(t, x.Store(0, good, 9), x.Store(1, good, 50), x.Lock(0, good, 5))
		callOf("Fetch", 0, 0, good, 5).refused(t, x, api.ErrPoor)
		callOf("Fetch", 0, 0, good, 9).refused(t, x, api.ErrPoor)
		callOf("Fetch", 0, 0, good, 10).refused(t, x, api.ErrPoor)
		each(t, x.Fetch(0, good, 4))
		wantGood(t, x, 0, good, 5, 5)
		callOf("Fetch", 0, 0, good, 1).refused(t, x, api.ErrPoor)
		each(t, x.Unlock(0, good, 5), x.Fetch(0, good, 3))
		wantGood(t, x, 0, good, 2, 0)
		callOf("Fetch", 0, 0, good, 3).refused(t, x, api.ErrPoor)
		each(t, x.Fetch(0, good, 2))
		wantGood(t, x, 0, good, 0, 0)
		wantGood(t, x, 1, good, 50, 0)
	}
}

// 6.2
func TestLock(t *testing.T) {
	for good := range 4 {
		x := newLedger(t, 2, 4)
		callOf("Lock", 0, 0, good, 1).refused(t, x, api.ErrPoor)
		each(t, x.Store(0, good, 9), x.Store(1, good, 50))
		callOf("Lock", 0, 0, good, 10).refused(t, x, api.ErrPoor)
		each(t, x.Lock(0, good, 4))
		wantGood(t, x, 0, good, 9, 4)
		callOf("Lock", 0, 0, good, 6).refused(t, x, api.ErrPoor)
		each(t, x.Lock(0, good, 5))
		wantGood(t, x, 0, good, 9, 9)
		callOf("Lock", 0, 0, good, 1).refused(t, x, api.ErrPoor)
		wantGood(t, x, 1, good, 50, 0)
	}
}

// 6.2
func TestUnlock(t *testing.T) {
	for good := range 4 {
		x := newLedger(t, 2, 4)
		each(t, x.Store(0, good, 9), x.Store(1, good, 50), x.Lock(1, good, 50))
		callOf("Unlock", 0, 0, good, 1).refused(t, x, api.ErrPoor)
		each(t, x.Lock(0, good, 5))
		callOf("Unlock", 0, 0, good, 6).refused(t, x, api.ErrPoor)
		each(t, x.Unlock(0, good, 2))
		wantGood(t, x, 0, good, 9, 3)
		callOf("Unlock", 0, 0, good, 4).refused(t, x, api.ErrPoor)
		each(t, x.Unlock(0, good, 3))
		wantGood(t, x, 0, good, 9, 0)
		callOf("Unlock", 0, 0, good, 1).refused(t, x, api.ErrPoor)
		wantGood(t, x, 1, good, 50, 50)
	}
}

// 6.2: what another good, or cash, has of it does not help.
func TestGoodsAreApart(t *testing.T) {
	x := newLedger(t, 1, 4)
	each(t, x.Pay(0, 9), x.Hold(0, 4))
	for good := range 4 {
		for other := range 4 {
			for _, name := range []string{"Fetch", "Lock", "Unlock", "Hand"} {
				if other >= good {
					callOf(name, 0, 0, other, 1).refused(t, x, api.ErrPoor)
				}
			}
		}
		each(t, x.Store(0, good, 9), x.Lock(0, good, 4))
	}
	wantAccount(t, x, 0, api.Account{Cash: 9, Held: 4, Goods: [4]int{9, 9, 9, 9}, Locked: [4]int{4, 4, 4, 4}})
	y := newLedger(t, 1, 1)
	each(t, y.Store(0, 0, 9), y.Lock(0, 0, 4))
	for _, name := range []string{"Take", "Hold", "Free", "Move"} {
		callOf(name, 0, 0, 0, 1).refused(t, y, api.ErrPoor)
	}
}

// 6.3
func TestHand(t *testing.T) {
	for good := range 4 {
		x := newLedger(t, 3, 4)
		each(t, x.Store(0, good, 9), x.Store(1, good, 3), x.Lock(1, good, 2), x.Store(2, good, 50), x.Lock(2, good, 50))
		callOf("Hand", 0, 1, good, 1).refused(t, x, api.ErrPoor) // free goods are not handed
		each(t, x.Lock(0, good, 5))
		callOf("Hand", 0, 1, good, 6).refused(t, x, api.ErrPoor)
		each(t, x.Hand(0, 1, good, 4))
		wantGood(t, x, 0, good, 5, 1)
		wantGood(t, x, 1, good, 7, 2)
		callOf("Hand", 0, 1, good, 2).refused(t, x, api.ErrPoor)
		each(t, x.Hand(0, 1, good, 1))
		wantGood(t, x, 0, good, 4, 0)
		wantGood(t, x, 1, good, 8, 2)
		callOf("Hand", 0, 1, good, 1).refused(t, x, api.ErrPoor)
		wantGood(t, x, 2, good, 50, 50)
		var all [4]int
		all[good] = 62
		wantTotals(t, x, 0, all)
	}
}

// 6.3
func TestHandToItself(t *testing.T) {
	for good := range 4 {
		x := newLedger(t, 2, 4)
		each(t, x.Store(1, good, 9))
		callOf("Hand", 1, 1, good, 1).refused(t, x, api.ErrPoor)
		each(t, x.Lock(1, good, 5), x.Hand(1, 1, good, 3))
		wantGood(t, x, 1, good, 9, 2)
		callOf("Hand", 1, 1, good, 3).refused(t, x, api.ErrPoor)
		each(t, x.Hand(1, 1, good, 2))
		wantGood(t, x, 1, good, 9, 0)
		each(t, x.Fetch(1, good, 9))
		wantTotals(t, x, 0, [4]int{})
	}
}

// 6.3: what is handed is not more than before, though there is as much as there may be.
func TestHandOfAllThereMayBe(t *testing.T) {
	x := newLedger(t, 2, 2)
	each(t, x.Store(0, 1, most), x.Lock(0, 1, most), x.Hand(0, 0, 1, most), x.Lock(0, 1, most), x.Hand(0, 1, 1, most))
	wantGood(t, x, 0, 1, 0, 0)
	wantGood(t, x, 1, 1, most, 0)
}
