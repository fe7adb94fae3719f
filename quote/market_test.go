package quote_test

import (
	"math"
	"math/big"
	"testing"

	"gavel/api"
	"gavel/quote"
)

// 5.3
func TestMid(t *testing.T) {
	for _, r := range []struct{ bid, ask, mid float64 }{
		{1, 2, 1.5}, {2, 1, 1.5}, {-1, 1, 0}, {3, 3, 3}, {-4, -2, -3}, {0.25, 0.5, 0.375},
		{0, 0, 0}, {negZero, 0, 0}, {0, negZero, 0}, {negZero, negZero, negZero},
		{math.MaxFloat64, math.MaxFloat64, math.MaxFloat64}, {-math.MaxFloat64, -math.MaxFloat64, -math.MaxFloat64}, {math.MaxFloat64, -math.MaxFloat64, 0},
		{inf, 1, inf}, {1, inf, inf}, {negInf, 1, negInf}, {inf, inf, inf}, {negInf, negInf, negInf}, {inf, negInf, nan}, {negInf, inf, nan},
		{inf, math.MaxFloat64, inf}, {-math.MaxFloat64, negInf, negInf},
	} {
		want(t, "Mid", quote.Mid(r.bid, r.ask), r.mid)
	}
}

// 5.3: next to 0 a half is rounded ahead of the sum.
func TestMidNextToZero(t *testing.T) {
	for _, r := range [][3]uint64{{1, 1, 0}, {1, 2, 1}, {2, 1, 1}, {3, 1, 2}, {3, 3, 4}, {1, 0, 0}, {2, 2, 2}, {3, 2, 3}, {5, 5, 4}, {2, 5, 3}} {
		want(t, "Mid", quote.Mid(of(r[0]), of(r[1])), of(r[2]))
		want(t, "Mid below 0", quote.Mid(-of(r[0]), -of(r[1])), -of(r[2]))
	}
	want(t, "Mid", quote.Mid(least, -least), 0)
	want(t, "Mid", quote.Mid(-least, negZero), negZero)
}

// 5.3: where one is no number the other one is told, where both are, the NaN.
func TestMidOfNoNumber(t *testing.T) {
	for _, b := range noNumbers() {
		for _, x := range rising() {
			want(t, "Mid without a bid", quote.Mid(of(b), of(x)), of(x))
			want(t, "Mid without an ask", quote.Mid(of(x), of(b)), of(x))
		}
		for _, other := range noNumbers() {
			want(t, "Mid of neither", quote.Mid(of(b), of(other)), nan)
		}
	}
}

// 5.3: each operation is rounded by itself.
func TestMidByFractions(t *testing.T) {
	var c chain
	half := big.NewRat(1, 2)
	check := func(bid, ask float64) {
		a := nearest(new(big.Rat).Mul(exact(bid), half))
		b := nearest(new(big.Rat).Mul(exact(ask), half))
		if sum := nearest(new(big.Rat).Add(exact(a), exact(b))); quote.Mid(bid, ask) != sum {
			t.Errorf("Mid(%v, %v) = %v; want %v", bid, ask, quote.Mid(bid, ask), sum)
		}
	}
	for range 5000 {
		check(c.number(30), c.number(30))
		check(of(c.next()%4096), of(c.next()%4096))
		check(-of(c.next()%4096), of(c.next()%(1<<53)))
	}
}

// 5.3: Mid lies between the two.
func TestMidBetween(t *testing.T) {
	l := []float64{1.0000001e-300, -1.0000001e-300, 1e-299, math.Nextafter(1e-299, 1), 1e300, -1e300}
	for _, b := range rising() {
		l = append(l, of(b))
	}
	var c chain
	for range 200 {
		l = append(l, c.number(990), c.number(2))
	}
	for _, a := range l {
		for _, b := range l {
			if math.Abs(a) <= 1e-300 || math.Abs(b) <= 1e-300 || math.IsInf(a, 0) || math.IsInf(b, 0) {
				continue
			}
			if m := quote.Mid(a, b); !(min(a, b) <= m && m <= max(a, b)) {
				t.Errorf("Mid(%v, %v) = %v", a, b, m)
			}
		}
	}
}

// 5.3
func TestSpread(t *testing.T) {
	for _, r := range []struct{ bid, ask, spread float64 }{
		{1, 3, 2}, {3, 1, -2}, {2, 2, 0}, {0, 0, 0}, {negZero, 0, 0}, {0, negZero, negZero}, {negZero, negZero, 0}, {-1, 1, 2},
		{least, 0, -least}, {0, least, least}, {1, 1.25, 0.25}, {1, 1 << 60, 1 << 60},
		{-math.MaxFloat64, math.MaxFloat64, inf}, {math.MaxFloat64, -math.MaxFloat64, negInf}, {math.MaxFloat64, math.MaxFloat64, 0},
		{inf, 1, negInf}, {1, inf, inf}, {negInf, 1, inf}, {1, negInf, negInf}, {negInf, inf, inf}, {inf, negInf, negInf}, {inf, inf, nan}, {negInf, negInf, nan},
	} {
		want(t, "Spread", quote.Spread(r.bid, r.ask), r.spread)
	}
	for _, b := range noNumbers() {
		for _, x := range floats() {
			want(t, "Spread of no bid", quote.Spread(of(b), x), nan)
			want(t, "Spread of no ask", quote.Spread(x, of(b)), nan)
		}
	}
}

func wantVwap(t *testing.T, prices, volumes []float64, mean float64) {
	t.Helper()
	v, e := quote.Vwap(prices, volumes)
	if e != api.OK {
		t.Errorf("Vwap(%v, %v): %d", prices, volumes, e)
	}
	want(t, "Vwap", v, mean)
}

// 5.4
func TestVwap(t *testing.T) {
	type l = []float64
	const great = math.MaxFloat64
	for _, r := range []struct {
		prices, volumes l
		mean            float64
	}{
		{l{1, 3}, l{1, 1}, 2}, {l{1, 3}, l{3, 1}, 1.5}, {l{5}, l{2}, 5}, {l{-1, -3}, l{1, 1}, -2}, {l{4}, l{-2}, 4},
		{nil, nil, nan}, {l{}, nil, nan}, {nil, l{}, nan}, {l{}, l{}, nan},
		{l{1}, l{0}, nan}, {l{1, 2}, l{0, negZero}, nan}, {l{1, 3}, l{1, -1}, negInf}, {l{3, 1}, l{1, -1}, inf}, {l{1, 1}, l{1, -1}, nan},
		{l{nan}, l{1}, nan}, {l{1}, l{nan}, nan}, {l{1, nan, 1}, l{1, 0, 1}, nan}, {l{of(0xfff0000000000001)}, l{1}, nan},
		{l{inf}, l{1}, inf}, {l{negInf}, l{1}, negInf}, {l{inf}, l{0}, nan}, {l{0}, l{inf}, nan}, {l{1}, l{inf}, nan}, {l{inf, negInf}, l{1, 1}, nan},
		{l{great, great}, l{1, 1}, inf}, {l{-great, -great}, l{1, 1}, negInf}, {l{great, -great}, l{2, 2}, nan}, {l{1e-300, 1e-300}, l{great, great}, 0},
		{l{-1e-300, -1e-300}, l{great, great}, negZero},
		{l{great}, l{2}, inf}, {l{1, 1}, l{inf, negInf}, nan}, {l{1e-200, 1}, l{1e-200, 1}, 1},
	} {
		wantVwap(t, r.prices, r.volumes, r.mean)
	}
}

// 5.4: the sums begin with 0, so that of what is -0 alone they are 0.
func TestVwapSignOfZero(t *testing.T) {
	type l = []float64
	wantVwap(t, l{negZero}, l{1}, 0)
	wantVwap(t, l{negZero, negZero}, l{1, 2}, 0)
	wantVwap(t, l{0}, l{-1}, negZero)
	wantVwap(t, l{1, -1}, l{1, 1}, 0)
	wantVwap(t, l{least}, l{0.5 * math.SmallestNonzeroFloat64}, nan)
}

// 5.4
func TestVwapRefuses(t *testing.T) {
	type l = []float64
	for _, r := range []struct{ prices, volumes l }{
		{l{1}, nil}, {nil, l{1}}, {l{1, 2}, l{1}}, {l{1}, l{1, 2}}, {l{nan}, l{}}, {l{1, 2, 3}, l{1, 2}}, {l{inf}, l{nan, nan}},
	} {
		v, e := quote.Vwap(r.prices, r.volumes)
		wantRefused(t, "Vwap", v, e, api.ErrArg)
	}
}

// 5.4: they are summed up as they stand; another order has another sum.
func TestVwapInOrder(t *testing.T) {
	type l = []float64
	const big = 1 << 53
	wantVwap(t, l{big, 1, -big}, l{1, 1, 1}, 0)
	wantVwap(t, l{big, -big, 1}, l{1, 1, 1}, 1.0/3)
	wantVwap(t, l{1, 1, big}, l{1, 1, 1}, (big+2)/3.0)
	wantVwap(t, l{big, 1, 1}, l{1, 1, 1}, big/3.0)
	wantVwap(t, l{0, 0, 3}, l{big, -big, 1}, 3)
	wantVwap(t, l{0, 3, 0}, l{big, 1, -big}, inf)
}

// 5.4: a product and a sum are two operations. The square of 1 + 2^-27 loses its last bit ahead of the sum.
func TestVwapTwoOperations(t *testing.T) {
	x := 1 + 1.0/(1<<27)
	square := 1 + 1.0/(1<<26)
	wantVwap(t, []float64{-square, x}, []float64{1, x}, 0)
	wantVwap(t, []float64{x, -square}, []float64{x, 1}, 0)
}

// 5.4: each operation rounded by itself, by fractions.
func TestVwapByFractions(t *testing.T) {
	var c chain
	for i := range 500 {
		var prices, volumes []float64
		worth, volume := 0.0, 0.0
		for range i%9 + 1 {
			p, v := c.number(20), math.Abs(c.number(20))
			prices, volumes = append(prices, p), append(volumes, v)
			product := nearest(new(big.Rat).Mul(exact(p), exact(v)))
			worth = nearest(new(big.Rat).Add(exact(worth), exact(product)))
			volume = nearest(new(big.Rat).Add(exact(volume), exact(v)))
		}
		wantVwap(t, prices, volumes, nearest(new(big.Rat).Quo(exact(worth), exact(volume))))
	}
}

// R3
func TestVwapChangesNothing(t *testing.T) {
	prices, first := frame(floats())
	volumes, second := frame(floats())
	quote.Vwap(prices, volumes)
	first(t, "prices")
	second(t, "volumes")
}
