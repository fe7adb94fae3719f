package quote_test

import (
	"math"
	"math/big"
	"testing"

	"gavel/api"
	"gavel/quote"
)

// theNaN are the bits of the float that stands for all that is no number.
const theNaN = 0x7ff8000000000001

func of(bits uint64) float64 { return math.Float64frombits(bits) }

var (
	negZero = of(1 << 63)
	nan     = of(theNaN)
	inf     = math.Inf(1)
	negInf  = math.Inf(-1)
	least   = of(1)
)

// rising are the bits of floats in their order, with all edges; each stands ahead of the next one.
func rising() []uint64 {
	return []uint64{
		0xfff0000000000000,                                         // the infinite one below 0
		0xffefffffffffffff,                                         // the least finite one
		0xc340000000000001, 0xc340000000000000, 0xc33fffffffffffff, // about -2^53
		0xc004000000000000, 0xbff8000000000000, 0xbff0000000000001, 0xbff0000000000000, 0xbfefffffffffffff, // -2.5, -1.5, about -1
		0x8010000000000000, 0x800fffffffffffff, 0x8000000000000002, 0x8000000000000001,
		0x8000000000000000, // -0
		0x0000000000000000,
		0x0000000000000001, 0x0000000000000002, 0x000fffffffffffff, 0x0010000000000000,
		0x3fefffffffffffff, 0x3ff0000000000000, 0x3ff0000000000001, 0x3ff8000000000000, 0x4004000000000000,
		0x426fffffffffffff, 0x4270000000000000, 0x4270000000000001, // about 2^40
		0x433fffffffffffff, 0x4340000000000000, 0x4340000000000001,
		0x7fefffffffffffff, // the greatest finite one
		0x7ff0000000000000, // the infinite one
	}
}

// noNumbers are bits of what is no number: the NaN first.
func noNumbers() []uint64 {
	return []uint64{
		theNaN, 0x7ff8000000000000, 0x7ff8000000000002, 0x7ff0000000000001, 0x7ff7ffffffffffff, 0x7fffffffffffffff,
		0xfff8000000000000, 0xfff8000000000001, 0xfff0000000000001, 0xffffffffffffffff,
	}
}

// floats are all those of rising, then those that are no number.
func floats() []float64 {
	var l []float64
	for _, b := range append(rising(), noNumbers()...) {
		l = append(l, of(b))
	}
	return l
}

func list(bits ...uint64) []float64 {
	var l []float64
	for _, b := range bits {
		l = append(l, of(b))
	}
	return l
}

// same holds floats against each other bit by bit.
func same(a, b float64) bool { return math.Float64bits(a) == math.Float64bits(b) }

func sameList(a, b []float64) bool {
	if len(a) != len(b) {
		return false
	}
	for i := range a {
		if !same(a[i], b[i]) {
			return false
		}
	}
	return true
}

func want(t *testing.T, what string, got, want float64) {
	t.Helper()
	if !same(got, want) {
		t.Errorf("%s = %v (%x); want %v (%x)", what, got, math.Float64bits(got), want, math.Float64bits(want))
	}
}

// wantRefused: beside an error a float is +0.
func wantRefused(t *testing.T, what string, got float64, e, why api.Errno) {
	t.Helper()
	if !same(got, 0) || e != why {
		t.Errorf("%s = %v (%x), %d; want 0, %d", what, got, math.Float64bits(got), e, why)
	}
}

// exact is a finite float as a fraction.
func exact(x float64) *big.Rat { return new(big.Rat).SetFloat64(x) }

// nearest is the float next to a fraction, ties to even.
func nearest(r *big.Rat) float64 {
	x, _ := r.Float64()
	return x
}

// chain gives numbers without a rule that is to be seen, the same ones each time.
type chain uint64

func (c *chain) next() uint64 {
	*c = *c*6364136223846793005 + 1442695040888963407
	x := uint64(*c)
	return x ^ x>>29
}

// number is a finite float about 1, within a factor of 2^spread.
func (c *chain) number(spread uint64) float64 {
	exponent := 1023 - spread + c.next()%(2*spread)
	return of(c.next()&(1<<63) | exponent<<52 | c.next()>>12)
}

// frame is a list inside of a longer one: nothing of it may change.
func frame(l []float64) (inside []float64, check func(t *testing.T, what string)) {
	whole := append(append([]float64{77}, l...), 78, 79)
	before := append([]float64(nil), whole...)
	return whole[1 : 1+len(l)], func(t *testing.T, what string) {
		t.Helper()
		if !sameList(whole, before) {
			t.Errorf("%s: what was handed in is %v, was %v", what, whole, before)
		}
	}
}

// P1: nothing panics, and with each error the other result is its zero value.
func TestAllEdges(t *testing.T) {
	l := floats()
	for _, a := range l {
		for _, k := range []int{math.MinInt, -1, 0, 1, 20, 21, 63, 64, math.MaxInt} {
			if n, e := quote.Ticks(a, k); e != api.OK && n != 0 {
				t.Errorf("Ticks(%v, %d) = %d, %d", a, k, n, e)
			}
		}
		if n, e := quote.Whole(a); e != api.OK && n != 0 {
			t.Errorf("Whole(%v) = %d, %d", a, n, e)
		}
		for _, b := range l {
			told(t, "Mid", quote.Mid(a, b))
			told(t, "Spread", quote.Spread(a, b))
			v, e := quote.Vwap([]float64{a}, []float64{b})
			told(t, "Vwap", v)
			if e != api.OK {
				t.Errorf("Vwap(%v, %v): %d", a, b, e)
			}
			told(t, "Median", quote.Median([]float64{a, b}))
			for _, x := range l {
				v, e := quote.Clamp(x, a, b)
				told(t, "Clamp", v)
				if e != api.OK && !same(v, 0) {
					t.Errorf("Clamp(%v, %v, %v) = %v, %d", x, a, b, v, e)
				}
			}
		}
	}
}

// told: what is no number is the NaN.
func told(t *testing.T, what string, x float64) {
	t.Helper()
	if math.IsNaN(x) && math.Float64bits(x) != theNaN {
		t.Errorf("%s told %x", what, math.Float64bits(x))
	}
}
