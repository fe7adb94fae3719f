package clock_test

import (
	"math"
	"math/big"
	"slices"
	"testing"

	"gavel/api"
	"gavel/clock"
)

// The chapter's example.
func TestExample(t *testing.T) {
	a := newAuction(t, 5, 10, 2, 2)
	bid(t, a, 4, 3)
	next(t, a, clock.Open)
	wantTells(t, a, tells{2, 12, 10, 7, 5, clock.Open})
	bid(t, a, 1)
	next(t, a, clock.Sold)
	wantSale(t, a, 10, 2, 3)
}

// 7.3
func TestSaleOfAnOpenOne(t *testing.T) {
	a := newAuction(t, 5, 10, 2, 2)
	wantNoSale(t, a, api.ErrNone)
	bid(t, a, 4, 1)
	wantNoSale(t, a, api.ErrNone)
	bid(t, a, 4, 3)
	next(t, a, clock.Open)
	wantNoSale(t, a, api.ErrNone)
	bid(t, a, 0, 0)
	wantNoSale(t, a, api.ErrNone)
}

// 7.3
func TestSaleOfAVoidOne(t *testing.T) {
	a := newAuction(t, 5, top, 2, 1)
	bid(t, a, 6)
	next(t, a, clock.Void)
	wantSale(t, a, 0, 0)
	b := newAuction(t, 5, top-2, 2, 3)
	bid(t, b, 6, 0, 7)
	next(t, b, clock.Open)
	bid(t, b, 5, 0, 1)
	next(t, b, clock.Void)
	wantSale(t, b, 0, 0, 0, 0)
}

// 7.3
func TestSaleInTheFirstRound(t *testing.T) {
	for _, wants := range [][]int{{0, 0, 0}, {1, 0, 0}, {0, 2, 2}, {4, 0, 1}, {0, 0, 5}} {
		a := newAuction(t, 5, 10, 2, 3)
		bid(t, a, wants...)
		next(t, a, clock.Sold)
		wantSale(t, a, 10, wants...)
	}
	all := newAuction(t, lot, top, top, 1)
	bid(t, all, lot)
	next(t, all, clock.Sold)
	wantSale(t, all, top, lot)
}

// 7.3: with as much wanted as there is at the round's price, with less at that of the round ahead.
func TestSaleInLaterRounds(t *testing.T) {
	for _, x := range []struct {
		wants [3]int
		price int
		gets  []int
	}{
		{[3]int{6, 4, 0}, 14, []int{6, 4, 0}},
		{[3]int{0, 7, 3}, 14, []int{0, 7, 3}},
		{[3]int{6, 3, 0}, 12, []int{7, 3, 0}}, // gaps 2, 4, 4, of 1 left: 0, 0, 0 and 1
		{[3]int{8, 1, 0}, 12, []int{8, 2, 0}}, // gaps 0, 6, 4, of 1 left
		{[3]int{8, 0, 0}, 12, []int{8, 2, 0}}, // gaps 0, 7, 4, of 2 left: 1, 0 and 1
		{[3]int{0, 0, 0}, 12, []int{5, 3, 2}}, // gaps 8, 7, 4, of 10 left: 4, 3, 2 and 1
		{[3]int{0, 7, 0}, 12, []int{2, 7, 1}}, // gaps 8, 0, 4, of 3 left: 2, 0, 1
		{[3]int{1, 1, 1}, 12, []int{5, 3, 2}}, // gaps 7, 6, 3, of 7 left: 3, 2, 1 and 1
	} {
		a := newAuction(t, 10, 10, 2, 3)
		bid(t, a, 9, 7, 4)
		next(t, a, clock.Open)
		bid(t, a, 8, 7, 4)
		next(t, a, clock.Open)
		bid(t, a, x.wants[:]...)
		next(t, a, clock.Sold)
		wantSale(t, a, x.price, x.gets...)
	}
}

// 7.3: the greatest numbers: sixteen want all there may be, then nothing.
func TestSaleOfTheMost(t *testing.T) {
	a := newAuction(t, lot, 0, top, 16)
	all := slices.Repeat([]int{lot}, 16)
	bid(t, a, all...)
	next(t, a, clock.Open)
	if a.Demand() != 16*lot || a.Price() != top {
		t.Errorf("%d are wanted at %d", a.Demand(), a.Price())
	}
	bid(t, a, make([]int, 16)...)
	next(t, a, clock.Sold)
	wantSale(t, a, 0, slices.Repeat([]int{lot / 16}, 16)...)
}

// 7.3: what is told is not kept.
func TestSaleIsNotKept(t *testing.T) {
	a := newAuction(t, 5, 10, 2, 2)
	bid(t, a, 4, 3)
	next(t, a, clock.Open)
	bid(t, a, 1)
	next(t, a, clock.Sold)
	_, first, _ := a.Sale()
	_, second, _ := a.Sale()
	first[0], first[1] = 100, 100
	if !slices.Equal(second, []int{2, 3}) {
		t.Errorf("two answers share memory: %v", second)
	}
	wantSale(t, a, 10, 2, 3)
	wantWants(t, a, 0, 4, 1)
	wantWants(t, a, 1, 3, 3)
	void := newAuction(t, 1, top, 1, 2)
	bid(t, void, 2)
	next(t, void, clock.Void)
	_, nothing, _ := void.Sale()
	nothing[0] = 1
	wantSale(t, void, 0, 0, 0)
}

// 7.5
func TestShares(t *testing.T) {
	for _, x := range []struct {
		n          int
		gaps, want []int
	}{
		{0, nil, nil},
		{0, []int{}, nil},
		{0, []int{0}, []int{0}},
		{0, []int{0, 0, 0}, []int{0, 0, 0}},
		{0, []int{3, 0, 5}, []int{0, 0, 0}},
		{1, []int{1}, []int{1}},
		{3, []int{7}, []int{3}},
		{5, []int{3, 3, 4}, []int{2, 1, 2}},
		{10, []int{3, 3, 4}, []int{3, 3, 4}},
		{9, []int{3, 3, 4}, []int{3, 3, 3}},
		{1, []int{0, 5}, []int{0, 1}},
		{1, []int{5, 5}, []int{1, 0}},
		{2, []int{5, 5, 5}, []int{1, 1, 0}}, // a piece each, not all of them to the first one
		{2, []int{0, 5, 0, 5, 5}, []int{0, 1, 0, 1, 0}},
		{2, []int{1, 5, 100}, []int{1, 0, 1}},
		{5, []int{1, 1, 1, 1, 1, 1}, []int{1, 1, 1, 1, 1, 0}},
		{7, []int{1, 2, 3, 4}, []int{1, 2, 2, 2}},
		{100, []int{1, 1, 1, 1000}, []int{1, 0, 0, 99}},
		{lot, []int{lot}, []int{lot}},
		{lot, []int{lot, lot}, []int{lot / 2, lot / 2}},
		{lot, []int{lot, lot, lot}, []int{lot/3 + 1, lot / 3, lot / 3}},
		{lot, []int{lot - 1, 1}, []int{lot - 1, 1}},
		{lot, []int{1, lot}, []int{1, lot - 1}},
		{15, slices.Repeat([]int{lot}, 16), append(slices.Repeat([]int{1}, 15), 0)},
		{lot, slices.Repeat([]int{lot}, 16), slices.Repeat([]int{lot / 16}, 16)},
		{0, make([]int, 16), make([]int, 16)},
	} {
		if got, e := clock.Shares(x.n, x.gaps); !slices.Equal(got, x.want) || e != api.OK {
			t.Errorf("Shares(%d, %v) = %v, %d, want %v", x.n, x.gaps, got, e, x.want)
		}
	}
}

// 7.5
func TestSharesRefuses(t *testing.T) {
	for _, x := range []struct {
		n    int
		gaps []int
	}{
		{0, make([]int, 17)},
		{1, slices.Repeat([]int{1}, 17)},
		{0, make([]int, 1<<16)},
		{-1, []int{3}},
		{-1, nil},
		{-1, []int{0}},
		{math.MinInt, []int{3}},
		{math.MaxInt, []int{3}},
		{lot + 1, []int{lot, lot}},
		{lot + 1, slices.Repeat([]int{lot}, 16)},
		{lot + 1, []int{lot, 1}},
		{1, nil},
		{1, []int{0}},
		{1, make([]int, 16)},
		{3, []int{1, 1}},
		{lot, []int{lot - 1}},
		{11, []int{3, 3, 4}},
		{1, []int{3, -1}},
		{0, []int{-1}},
		{0, []int{1, -1}},
		{2, []int{-1, 3}},
		{1, []int{lot + 1}},
		{0, []int{0, 0, lot + 1}},
		{0, []int{math.MinInt}},
		{0, []int{math.MaxInt, math.MaxInt}},
		{0, []int{math.MinInt, math.MinInt}},
		{1, []int{math.MaxInt, math.MaxInt, 3}},
	} {
		if got, e := clock.Shares(x.n, x.gaps); len(got) != 0 || e != api.ErrArg {
			t.Errorf("Shares(%d, %.20v) = %v, %d", x.n, x.gaps, got, e)
		}
	}
}

// sharesBy parts n by the words of the chapter: fractions rounded down, then pieces in turn while there are some.
func sharesBy(n int, gaps []int) []int {
	all := new(big.Int)
	for _, gap := range gaps {
		all.Add(all, big.NewInt(int64(gap)))
	}
	l := make([]int, len(gaps))
	left := n
	for i, gap := range gaps {
		if all.Sign() > 0 {
			x := new(big.Int).Mul(big.NewInt(int64(n)), big.NewInt(int64(gap)))
			l[i] = int(x.Div(x, all).Int64())
		}
		left -= l[i]
	}
	for i := 0; left > 0; i = (i + 1) % len(l) {
		if l[i] < gaps[i] {
			l[i]++
			left--
		}
	}
	return l
}

// 7.5: many gaps: just n are shared out, and to nobody more than its gap.
func TestManyShares(t *testing.T) {
	dice := chance(3)
	for range 50000 {
		gaps, all := make([]int, dice(17)), 0
		most := 1 << dice(21)
		for i := range gaps {
			if dice(4) > 0 {
				gaps[i] = dice(most + 1)
			}
			all += gaps[i]
		}
		n := dice(min(all, lot) + 1)
		if dice(5) == 0 {
			n = min(all, lot)
		}
		got, e := clock.Shares(n, gaps)
		if e != api.OK || !slices.Equal(got, sharesBy(n, gaps)) {
			t.Fatalf("Shares(%d, %v) = %v, %d, want %v", n, gaps, got, e, sharesBy(n, gaps))
		}
		sum := 0
		for i, x := range got {
			sum += x
			if x < 0 || x > gaps[i] {
				t.Fatalf("Shares(%d, %v) = %v", n, gaps, got)
			}
		}
		if sum != n {
			t.Fatalf("Shares(%d, %v) = %v, %d in all", n, gaps, got, sum)
		}
	}
}

// R3: the gaps are neither changed nor kept, nor what lies behind them.
func TestSharesLeavesGaps(t *testing.T) {
	room := []int{3, 3, 4, 77}
	got, e := clock.Shares(5, room[:3])
	if e != api.OK || !slices.Equal(room, []int{3, 3, 4, 77}) {
		t.Errorf("%v, %d", room, e)
	}
	clear(room)
	if !slices.Equal(got, []int{2, 1, 2}) {
		t.Errorf("the answer is %v behind a change of the gaps", got)
	}
}
