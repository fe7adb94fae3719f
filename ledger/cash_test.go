package ledger_test

import (
	"testing"

	"gavel/api"
	"gavel/ledger"
)

// wantCash: a client has so much cash, so much of it held, and no good.
func wantCash(t *testing.T, x *ledger.Ledger, who, cash, held int) {
	t.Helper()
	wantAccount(t, x, who, api.Account{Cash: cash, Held: held})
}

// callOf is one of callsOf, by its name.
func callOf(name string, who, to, good, n int) call {
	for _, c := range callsOf(who, to, good, n) {
		if c.name == name {
			return c
		}
	}
	panic("no call " + name)
}

// 6.2
func TestPay(t *testing.T) {
	x := newLedger(t, 3, 1)
	each(t, x.Pay(0, 5), x.Pay(0, 2), x.Pay(1, 1))
	wantCash(t, x, 0, 7, 0)
	wantCash(t, x, 1, 1, 0)
	callOf("Pay", 2, 0, 0, most-7).refused(t, x, api.ErrOver)
	callOf("Pay", 0, 0, 0, most-7).refused(t, x, api.ErrOver)
	each(t, x.Pay(2, most-8))
	wantTotals(t, x, most, [4]int{})
	for who := range 3 {
		callOf("Pay", who, 0, 0, 1).refused(t, x, api.ErrOver)
		callOf("Pay", who, 0, 0, most).refused(t, x, api.ErrOver)
	}
	each(t, x.Hold(2, 9), x.Move(2, 1, 9)) // cash that moves or is held stays in all there is
	callOf("Pay", 0, 0, 0, 1).refused(t, x, api.ErrOver)
	each(t, x.Store(0, 0, most), x.Take(0, 3)) // of a good there is as much as may be, whatever cash there is
	callOf("Pay", 0, 0, 0, 4).refused(t, x, api.ErrOver)
	each(t, x.Pay(1, 3))
	wantCash(t, x, 1, 13, 0)
}

// 6.2
func TestPayAtOnce(t *testing.T) {
	x := newLedger(t, 16, 4)
	each(t, x.Pay(15, most))
	wantCash(t, x, 15, most, 0)
	callOf("Pay", 0, 0, 0, 1).refused(t, x, api.ErrOver)
	callOf("Pay", 0, 0, 0, most).refused(t, x, api.ErrOver)
}

// 6.2
func TestTake(t *testing.T) {
	x := newLedger(t, 2, 1)
	callOf("Take", 0, 0, 0, 1).refused(t, x, api.ErrPoor)
	each(t, x.Pay(0, 9), x.Pay(1, 50), x.Hold(0, 5))
	callOf("Take", 0, 0, 0, 5).refused(t, x, api.ErrPoor)
	callOf("Take", 0, 0, 0, 9).refused(t, x, api.ErrPoor)
	callOf("Take", 0, 0, 0, 10).refused(t, x, api.ErrPoor)
	each(t, x.Take(0, 4))
	wantCash(t, x, 0, 5, 5)
	callOf("Take", 0, 0, 0, 1).refused(t, x, api.ErrPoor)
	each(t, x.Free(0, 5), x.Take(0, 3))
	wantCash(t, x, 0, 2, 0)
	callOf("Take", 0, 0, 0, 3).refused(t, x, api.ErrPoor)
	each(t, x.Take(0, 2))
	wantCash(t, x, 0, 0, 0)
	wantCash(t, x, 1, 50, 0)
}

// 6.2
func TestHold(t *testing.T) {
	x := newLedger(t, 2, 1)
	callOf("Hold", 0, 0, 0, 1).refused(t, x, api.ErrPoor)
	each(t, x.Pay(0, 9), x.Pay(1, 50))
	callOf("Hold", 0, 0, 0, 10).refused(t, x, api.ErrPoor)
	each(t, x.Hold(0, 4))
	wantCash(t, x, 0, 9, 4)
	callOf("Hold", 0, 0, 0, 6).refused(t, x, api.ErrPoor)
	each(t, x.Hold(0, 5))
	wantCash(t, x, 0, 9, 9)
	callOf("Hold", 0, 0, 0, 1).refused(t, x, api.ErrPoor)
	wantCash(t, x, 1, 50, 0)
}

// 6.2
func TestFree(t *testing.T) {
	x := newLedger(t, 2, 1)
	each(t, x.Pay(0, 9), x.Pay(1, 50), x.Hold(1, 50))
	callOf("Free", 0, 0, 0, 1).refused(t, x, api.ErrPoor)
	each(t, x.Hold(0, 5))
	callOf("Free", 0, 0, 0, 6).refused(t, x, api.ErrPoor)
	each(t, x.Free(0, 2))
	wantCash(t, x, 0, 9, 3)
	callOf("Free", 0, 0, 0, 4).refused(t, x, api.ErrPoor)
	each(t, x.Free(0, 3))
	wantCash(t, x, 0, 9, 0)
	callOf("Free", 0, 0, 0, 1).refused(t, x, api.ErrPoor)
	wantCash(t, x, 1, 50, 50)
}

// 6.3
func TestMove(t *testing.T) {
	x := newLedger(t, 3, 1)
	each(t, x.Pay(0, 9), x.Pay(1, 3), x.Hold(1, 2), x.Pay(2, 50), x.Hold(2, 50))
	callOf("Move", 0, 1, 0, 1).refused(t, x, api.ErrPoor) // free cash is not moved
	each(t, x.Hold(0, 5))
	callOf("Move", 0, 1, 0, 6).refused(t, x, api.ErrPoor)
	each(t, x.Move(0, 1, 4))
	wantCash(t, x, 0, 5, 1)
	wantCash(t, x, 1, 7, 2)
	callOf("Move", 0, 1, 0, 2).refused(t, x, api.ErrPoor)
	each(t, x.Move(0, 1, 1))
	wantCash(t, x, 0, 4, 0)
	wantCash(t, x, 1, 8, 2)
	callOf("Move", 0, 1, 0, 1).refused(t, x, api.ErrPoor)
	wantCash(t, x, 2, 50, 50)
	wantTotals(t, x, 62, [4]int{})
}

// 6.3
func TestMoveToItself(t *testing.T) {
	x := newLedger(t, 2, 1)
	each(t, x.Pay(1, 9))
	callOf("Move", 1, 1, 0, 1).refused(t, x, api.ErrPoor)
	each(t, x.Hold(1, 5), x.Move(1, 1, 3))
	wantCash(t, x, 1, 9, 2)
	callOf("Move", 1, 1, 0, 3).refused(t, x, api.ErrPoor)
	each(t, x.Move(1, 1, 2))
	wantCash(t, x, 1, 9, 0)
	each(t, x.Take(1, 9))
	wantTotals(t, x, 0, [4]int{})
}

// 6.3: what moves is not more than before, though there is as much as there may be.
func TestMoveOfAllThereMayBe(t *testing.T) {
	x := newLedger(t, 2, 1)
	each(t, x.Pay(0, most), x.Hold(0, most), x.Move(0, 0, most), x.Hold(0, most), x.Move(0, 1, most))
	wantCash(t, x, 0, 0, 0)
	wantCash(t, x, 1, most, 0)
}
