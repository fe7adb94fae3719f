package quote_test

import (
	"math"
	"math/big"
	"testing"

	"gavel/api"
	"gavel/quote"
)

func wantTicks(t *testing.T, price float64, k, n int, why api.Errno) {
	t.Helper()
	if got, e := quote.Ticks(price, k); got != n || e != why {
		t.Errorf("Ticks(%v, %d) = %d, %d; want %d, %d", price, k, got, e, n, why)
	}
}

// 5.1
func TestTicks(t *testing.T) {
	const most = 1 << 40
	for _, r := range []struct {
		price float64
		k, n  int
	}{
		{1.5, 6, 96}, {0, 0, 0}, {0, 20, 0}, {negZero, 0, 0}, {negZero, 20, 0}, {1, 0, 1}, {1, 20, 1 << 20}, {7.25, 2, 29},
		{1.0 / (1 << 20), 20, 1}, {1.0 / 64, 6, 1}, {3, 0, 3}, {0.5, 1, 1},
		{most, 0, most}, {most - 1, 0, most - 1}, {most / 64, 6, most}, {most/64 - 1.0/64, 6, most - 1},
		{1 << 20, 20, most}, {1<<20 - 1.0/(1<<20), 20, most - 1},
	} {
		wantTicks(t, r.price, r.k, r.n, api.OK)
	}
}

// 5.1
func TestTicksRefuses(t *testing.T) {
	const most = 1 << 40
	for _, r := range []struct {
		price float64
		k     int
		why   api.Errno
	}{
		{1, -1, api.ErrArg}, {1, 21, api.ErrArg}, {0, math.MinInt, api.ErrArg}, {0, math.MaxInt, api.ErrArg},
		{negInf, 0, api.ErrInf}, {inf, 0, api.ErrInf}, {inf, 20, api.ErrInf},
		{-1, 0, api.ErrSign}, {-1.5, 6, api.ErrSign}, {-least, 20, api.ErrSign}, {-math.MaxFloat64, 20, api.ErrSign}, {-most - 1, 0, api.ErrSign},
		{most + 1, 0, api.ErrRange}, {math.Nextafter(most, inf), 0, api.ErrRange}, {most, 1, api.ErrRange}, {most, 20, api.ErrRange},
		{math.Nextafter(most/64, inf), 6, api.ErrRange}, {most/64 + 1.0/64, 6, api.ErrRange},
		{math.Nextafter(1<<20, inf), 20, api.ErrRange}, {math.MaxFloat64, 0, api.ErrRange}, {math.MaxFloat64, 20, api.ErrRange}, {1e300, 6, api.ErrRange},
		{0.3, 6, api.ErrTick}, {0.5, 0, api.ErrTick}, {1.0 / 128, 6, api.ErrTick}, {1.5 / 64, 6, api.ErrTick},
		{least, 0, api.ErrTick}, {least, 20, api.ErrTick}, {of(0x000fffffffffffff), 20, api.ErrTick},
		{math.Nextafter(1.5, 2), 6, api.ErrTick}, {math.Nextafter(1.5, 1), 6, api.ErrTick}, {1.0 / (1 << 21), 20, api.ErrTick},
		{math.Nextafter(most, 0), 0, api.ErrTick}, {math.Nextafter(most/64, 0), 6, api.ErrTick}, {math.Nextafter(1<<20, 0), 20, api.ErrTick},
	} {
		wantTicks(t, r.price, r.k, 0, r.why)
	}
	for _, b := range noNumbers() {
		wantTicks(t, of(b), 0, 0, api.ErrNaN)
		wantTicks(t, of(b), 20, 0, api.ErrNaN)
	}
}

// 5.1: of several errors the one that is named first. That a price is too great comes ahead of that it lies between two ticks.
func TestTicksFirstError(t *testing.T) {
	for _, k := range []int{-1, 21} {
		for _, x := range append(floats(), -1, 0.3, 1<<40+0.5) {
			wantTicks(t, x, k, 0, api.ErrArg)
		}
	}
	wantTicks(t, of(0xfff8000000000001), 3, 0, api.ErrNaN)
	wantTicks(t, negInf, 3, 0, api.ErrInf)
	wantTicks(t, -0.3, 6, 0, api.ErrSign)
	wantTicks(t, 1<<40+0.5, 0, 0, api.ErrRange)
}

// ticksBy are the ticks of a finite price that is not below 0, by fractions.
func ticksBy(price float64, k int) (int, api.Errno) {
	r := new(big.Rat).Mul(exact(price), new(big.Rat).SetInt64(1<<k))
	switch {
	case r.Cmp(new(big.Rat).SetInt64(1<<40)) > 0:
		return 0, api.ErrRange
	case !r.IsInt():
		return 0, api.ErrTick
	}
	return int(r.Num().Int64()), api.OK
}

// 5.1
func TestTicksOfMany(t *testing.T) {
	var c chain
	for i := range 20000 {
		k := i % 21
		price := math.Abs(c.number(50))
		switch i % 3 {
		case 1: // about whole ticks
			price = math.Round(price*64) / 64
		case 2:
			price = math.Trunc(price)
		}
		n, why := ticksBy(price, k)
		wantTicks(t, price, k, n, why)
	}
}

// 5.2
func TestPrice(t *testing.T) {
	for _, r := range []struct {
		n, k  int
		price float64
	}{
		{96, 6, 1.5}, {0, 0, 0}, {0, 20, 0}, {1, 0, 1}, {1, 1, 0.5}, {1, 20, 1.0 / 1048576}, {3, 2, 0.75},
		{1 << 40, 0, 1099511627776}, {1 << 40, 20, 1048576}, {1<<40 - 1, 0, 1099511627775}, {1<<40 - 1, 20, 1048576 - 1.0/1048576},
	} {
		got, e := quote.Price(r.n, r.k)
		if e != api.OK {
			t.Errorf("Price(%d, %d): %d", r.n, r.k, e)
		}
		want(t, "Price", got, r.price)
	}
}

// 5.2
func TestPriceRefuses(t *testing.T) {
	for _, r := range [][2]int{
		{1, -1}, {1, 21}, {0, -1}, {0, 21}, {-1, 0}, {-1, 20}, {1<<40 + 1, 0}, {1<<40 + 1, 20}, {-1, -1}, {1<<40 + 1, 21},
		{math.MinInt, 0}, {math.MaxInt, 0}, {0, math.MinInt}, {0, math.MaxInt}, {1, 64},
	} {
		got, e := quote.Price(r[0], r[1])
		wantRefused(t, "Price", got, e, api.ErrArg)
	}
}

// 5.2: there and back, both ways round.
func TestPriceOfTicks(t *testing.T) {
	var c chain
	for k := range 21 {
		numbers := []int{0, 1, 2, 3, 63, 64, 65, 1<<20 - 1, 1 << 20, 1<<20 + 1, 1<<40 - 1, 1 << 40}
		for range 300 {
			numbers = append(numbers, int(c.next()%(1<<40)))
		}
		for _, n := range numbers {
			price, e := quote.Price(n, k)
			if r := new(big.Rat).SetFrac64(int64(n), 1<<k); e != api.OK || exact(price).Cmp(r) != 0 {
				t.Errorf("Price(%d, %d) = %v, %d", n, k, price, e)
			}
			wantTicks(t, price, k, n, api.OK)
		}
		for range 1000 {
			price := math.Abs(c.number(20))
			n, e := quote.Ticks(price, k)
			if e != api.OK {
				continue
			}
			back, _ := quote.Price(n, k)
			want(t, "Price of its ticks", back, price)
		}
	}
}

func wantWhole(t *testing.T, x float64, n int, why api.Errno) {
	t.Helper()
	if got, e := quote.Whole(x); got != n || e != why {
		t.Errorf("Whole(%v) = %d, %d; want %d, %d", x, got, e, n, why)
	}
}

// 5.9
func TestWhole(t *testing.T) {
	const most = 1 << 53
	for _, r := range []struct {
		x float64
		n int
	}{
		{0, 0}, {negZero, 0}, {least, 0}, {-least, 0}, {0.5, 0}, {-0.5, 0}, {1.5, 2}, {-1.5, -2}, {2.5, 2}, {-2.5, -2}, {3.5, 4}, {-3.5, -4},
		{math.Nextafter(0.5, 0), 0}, {math.Nextafter(0.5, 1), 1}, {math.Nextafter(-0.5, -1), -1}, {math.Nextafter(2.5, 3), 3}, {math.Nextafter(2.5, 2), 2},
		{math.Nextafter(1.5, 1), 1}, {math.Nextafter(-1.5, -1), -1}, {1, 1}, {-1, -1}, {0.75, 1}, {0.25, 0}, {-7.25, -7}, {-7.75, -8},
		{1 << 40, 1 << 40}, {1<<40 + 0.5, 1 << 40}, {1<<40 + 1.5, 1<<40 + 2}, {1<<51 + 0.5, 1 << 51}, {1<<51 + 1.5, 1<<51 + 2}, {-(1<<51 + 1.5), -(1<<51 + 2)},
		{1<<52 - 0.5, 1 << 52}, {1<<52 - 1.5, 1<<52 - 2}, {1<<52 + 1, 1<<52 + 1}, {most - 1, most - 1}, {most, most}, {-most, -most}, {-most + 1, -most + 1},
	} {
		wantWhole(t, r.x, r.n, api.OK)
	}
}

// 5.9
func TestWholeRefuses(t *testing.T) {
	for _, b := range noNumbers() {
		wantWhole(t, of(b), 0, api.ErrNaN)
	}
	wantWhole(t, inf, 0, api.ErrInf)
	wantWhole(t, negInf, 0, api.ErrInf)
	for _, x := range []float64{1<<53 + 2, -(1<<53 + 2), 1 << 62, 1 << 63, -(1 << 63), 1 << 64, 1e300, math.MaxFloat64, -math.MaxFloat64} {
		wantWhole(t, x, 0, api.ErrRange)
	}
}

// 5.9: by fractions.
func TestWholeOfMany(t *testing.T) {
	var c chain
	for i := range 20000 {
		x := c.number(53)
		if i%2 == 0 { // about halves
			x = math.Trunc(x*2) / 2
		}
		n, e := quote.Whole(x)
		off := new(big.Rat).Sub(exact(x), new(big.Rat).SetInt64(int64(n)))
		far := off.Abs(off).Cmp(big.NewRat(1, 2))
		if e != api.OK || far > 0 || far == 0 && n%2 != 0 {
			t.Errorf("Whole(%v) = %d, %d", x, n, e)
		}
	}
}
