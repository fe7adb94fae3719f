package quote_test

import (
	"math"
	"slices"
	"testing"

	"gavel/api"
	"gavel/quote"
)

// 5.5
func TestRank(t *testing.T) {
	for _, r := range [][2]uint64{
		{0, 1 << 63}, {1 << 63, 1<<63 - 1}, {1, 1<<63 + 1}, {1<<63 | 1, 1<<63 - 2}, {0x3ff0000000000000, 0xbff0000000000000}, {0xbff0000000000000, 0x400fffffffffffff},
		{0x7fefffffffffffff, 0xffefffffffffffff}, {0xffefffffffffffff, 0x0010000000000000}, {0x7ff0000000000000, 0xfff0000000000000}, {0xfff0000000000000, 0x000fffffffffffff},
	} {
		if got := quote.Rank(of(r[0])); got != r[1] {
			t.Errorf("Rank of %x = %x; want %x", r[0], got, r[1])
		}
	}
	for _, b := range noNumbers() {
		if got := quote.Rank(of(b)); got != math.MaxUint64 {
			t.Errorf("Rank of %x = %x", b, got)
		}
	}
}

// place is where a float of floats stands: all that is no number stands at one place.
func place(i int) int { return min(i, len(rising())) }

// 5.5: ranks and order tell the same of each two.
func TestLess(t *testing.T) {
	l := floats()
	for i, a := range l {
		for j, b := range l {
			ahead := place(i) < place(j)
			if quote.Less(a, b) != ahead {
				t.Errorf("Less(%v, %v) = %v", a, b, !ahead)
			}
			if ra, rb := quote.Rank(a), quote.Rank(b); (ra < rb) != ahead || (ra == rb) != (place(i) == place(j)) {
				t.Errorf("the ranks of %v and %v are %x and %x", a, b, ra, rb)
			}
		}
	}
}

// 5.5: of those that are numbers, and unlike, it is the order of numbers.
func TestLessOfMany(t *testing.T) {
	var c chain
	for range 20000 {
		a, b := of(c.next()), of(c.next())
		if a < b != quote.Less(a, b) && !math.IsNaN(a) && !math.IsNaN(b) {
			t.Errorf("Less(%v, %v)", a, b)
		}
		x := c.number(3)
		if y := math.Nextafter(x, inf); !quote.Less(x, y) || quote.Less(y, x) || quote.Less(x, x) {
			t.Errorf("Less about %v", x)
		}
	}
}

// 5.6
func TestSorted(t *testing.T) {
	type l = []float64
	for _, r := range []struct{ in, out l }{
		{nil, nil}, {l{}, nil}, {l{1}, l{1}}, {l{2, nan, 0, negZero}, l{negZero, 0, 2, nan}}, {l{0, negZero, 0, negZero}, l{negZero, negZero, 0, 0}},
		{l{3, 2, 1}, l{1, 2, 3}}, {l{1, 2, 3}, l{1, 2, 3}}, {l{2, 2, 1, 1, 2}, l{1, 1, 2, 2, 2}},
		{l{inf, nan, negInf, 0}, l{negInf, 0, inf, nan}}, {l{nan}, l{nan}}, {list(noNumbers()...), slices.Repeat(l{nan}, len(noNumbers()))},
		{l{of(0xffffffffffffffff), -math.MaxFloat64, least, -least}, l{-math.MaxFloat64, -least, least, nan}},
	} {
		if got := quote.Sorted(r.in); !sameList(got, r.out) {
			t.Errorf("Sorted(%v) = %v; want %v", r.in, got, r.out)
		}
	}
}

// ordered are floats as they stand in floats, so many of each, those that are no number as the NaN.
func ordered(count []int) []float64 {
	var out []float64
	for i, n := range count {
		x := floats()[i]
		if i >= len(rising()) {
			x = nan
		}
		out = append(out, slices.Repeat([]float64{x}, n)...)
	}
	return out
}

// 5.6: lists of all lengths, and of many that are alike.
func TestSortedOfMany(t *testing.T) {
	var c chain
	all := floats()
	for n := range 300 {
		count := make([]int, len(all))
		var l []float64
		for range n {
			i := int(c.next() % uint64(len(all)))
			count[i]++
			l = append(l, all[i])
		}
		if got := quote.Sorted(l); !sameList(got, ordered(count)) {
			t.Errorf("Sorted of %v = %v", l, got)
		}
	}
}

// 5.6
func TestSortedOfGreatLists(t *testing.T) {
	const n = 100000
	var rise, fall, saw []float64
	for i := range n {
		rise, fall, saw = append(rise, float64(i)), append(fall, float64(n-1-i)), append(saw, float64(i*7919%n))
	}
	for _, l := range [][]float64{rise, fall, saw} {
		if !sameList(quote.Sorted(l), rise) {
			t.Error("Sorted of a great list")
		}
		want(t, "Median of a great list", quote.Median(l), n/2-0.5)
	}
	alike := slices.Repeat([]float64{negZero}, n)
	if !sameList(quote.Sorted(alike), alike) {
		t.Error("Sorted of a great list of one float")
	}
}

// R3: what is handed in stays, what is answered is new memory.
func TestListsStay(t *testing.T) {
	for _, given := range [][]float64{{3, nan, 1, negZero, 0, of(0xfff0000000000001), 2}, {1, 2, 3}, {nan, nan}, floats()} {
		l, check := frame(given)
		out := quote.Sorted(l)
		quote.Best(l, true)
		quote.Best(l, false)
		quote.Median(l)
		check(t, "lists")
		for i := range out {
			out[i] = 99
		}
		_ = append(out, 98)
		check(t, "the answer is written to")
		before := slices.Clone(quote.Sorted(l))
		after := quote.Sorted(l)
		for i := range l {
			l[i] = 97
		}
		if !sameList(after, before) {
			t.Error("an answer changes with what was handed in")
		}
	}
}

func wantBest(t *testing.T, l []float64, high bool, best float64, has bool) {
	t.Helper()
	x, ok := quote.Best(l, high)
	if ok != has {
		t.Errorf("Best(%v, %v): %v", l, high, ok)
	}
	want(t, "Best", x, best)
}

// 5.6
func TestBest(t *testing.T) {
	type l = []float64
	for _, r := range []struct {
		in        l
		low, high float64
	}{
		{l{1}, 1, 1}, {l{2, 1, 3}, 1, 3}, {l{3, 1, 2}, 1, 3}, {l{1, 3, 2}, 1, 3}, {l{-1, -2}, -2, -1}, {l{nan, 5, nan}, 5, 5}, {l{of(0xfff8000000000001), -5, 5, of(0x7ff0000000000001)}, -5, 5},
		{l{0, negZero}, negZero, 0}, {l{negZero, 0}, negZero, 0}, {l{negZero}, negZero, negZero}, {l{0, 0}, 0, 0}, {l{negZero, nan, -1}, -1, negZero},
		{l{inf, negInf, 0}, negInf, inf}, {l{inf}, inf, inf}, {l{negInf, nan}, negInf, negInf}, {l{-math.MaxFloat64, math.MaxFloat64}, -math.MaxFloat64, math.MaxFloat64},
		{l{least, -least, 0}, -least, least}, {l{1, 1, 1}, 1, 1}, {l{4, 4, 2, 2}, 2, 4},
	} {
		wantBest(t, r.in, false, r.low, true)
		wantBest(t, r.in, true, r.high, true)
	}
}

// 5.6
func TestBestOfNone(t *testing.T) {
	for _, l := range [][]float64{nil, {}, {nan}, list(noNumbers()...), {of(0xffffffffffffffff)}} {
		wantBest(t, l, false, 0, false)
		wantBest(t, l, true, 0, false)
	}
}

// 5.6: the best ones are the ends of what is sorted.
func TestBestOfMany(t *testing.T) {
	var c chain
	all := floats()
	for n := range 200 {
		l := []float64{all[int(c.next()%uint64(len(rising())))]}
		for range n {
			l = append(l, all[int(c.next()%uint64(len(all)))])
		}
		numbers := slices.DeleteFunc(quote.Sorted(l), math.IsNaN)
		wantBest(t, l, false, numbers[0], true)
		wantBest(t, l, true, numbers[len(numbers)-1], true)
	}
}

// 5.6
func TestMedian(t *testing.T) {
	type l = []float64
	for _, r := range []struct {
		in     l
		median float64
	}{
		{nil, nan}, {l{}, nan}, {l{nan}, nan}, {list(noNumbers()...), nan}, {l{of(0xffffffffffffffff), of(0x7ff8000000000000)}, nan},
		{l{7}, 7}, {l{7, nan}, 7}, {l{of(0xfff0000000000001), 7}, 7}, {l{1, 2}, 1.5}, {l{3, 1, 2}, 2}, {l{4, nan, 1, 2, 3}, 2.5}, {l{9, 1, 5, nan, nan}, 5},
		{l{5, 1, 1, 1}, 1}, {l{1, 2, 4, 100}, 3}, {l{100, 4, nan, 2, 1, -50}, 2},
		{l{negZero}, negZero}, {l{0, negZero}, 0}, {l{negZero, negZero}, negZero}, {l{0, negZero, negZero}, negZero}, {l{0, 0, negZero}, 0}, {l{negZero, 0, negZero, 0, negZero}, negZero},
		{l{inf, negInf}, nan}, {l{inf, negInf, 3}, 3}, {l{inf, inf}, inf}, {l{negInf, 1, inf, 2}, 1.5}, {l{inf, 1}, inf}, {l{negInf, negInf, inf}, negInf},
		{l{math.MaxFloat64, math.MaxFloat64}, math.MaxFloat64}, {l{least, least}, 0}, {list(2, 1), least},
	} {
		want(t, "Median", quote.Median(r.in), r.median)
	}
}

// 5.7
func TestClamp(t *testing.T) {
	for _, r := range []struct{ x, lo, hi, out float64 }{
		{2, 1, 3, 2}, {0, 1, 3, 1}, {4, 1, 3, 3}, {1, 1, 3, 1}, {3, 1, 3, 3}, {5, 2, 2, 2}, {-5, 2, 2, 2}, {2, 2, 2, 2},
		{inf, 1, 3, 3}, {negInf, 1, 3, 1}, {inf, negInf, inf, inf}, {negInf, negInf, inf, negInf}, {5, negInf, negInf, negInf}, {5, inf, inf, inf}, {5, negInf, inf, 5},
		{negZero, 0, 1, 0}, {0, -1, negZero, negZero}, {negZero, negZero, 0, negZero}, {0, negZero, 0, 0}, {0, negZero, negZero, negZero}, {negZero, 0, 0, 0},
		{1, negZero, 0, 0}, {-1, negZero, 0, negZero}, {negZero, -1, 1, negZero}, {least, 0, 0, 0}, {-least, 0, 1, 0}, {math.MaxFloat64, 0, inf, math.MaxFloat64},
	} {
		got, e := quote.Clamp(r.x, r.lo, r.hi)
		if e != api.OK {
			t.Errorf("Clamp(%v, %v, %v): %d", r.x, r.lo, r.hi, e)
		}
		want(t, "Clamp", got, r.out)
	}
}

// 5.7: by the places of all floats.
func TestClampOfAll(t *testing.T) {
	l := floats()
	last := len(rising())
	for i, x := range l {
		for j, lo := range l {
			for k, hi := range l {
				got, e := quote.Clamp(x, lo, hi)
				if place(j) == last || place(k) == last || k < j {
					wantRefused(t, "Clamp", got, e, api.ErrArg)
					continue
				}
				out := nan
				if place(i) < last {
					out = l[min(max(i, j), k)]
				}
				if e != api.OK || !same(got, out) {
					t.Errorf("Clamp(%v, %v, %v) = %v, %d", x, lo, hi, got, e)
				}
			}
		}
	}
}

// 5.7: wrong bounds come ahead of what x is.
func TestClampRefuses(t *testing.T) {
	for _, r := range [][3]float64{
		{1, nan, 3}, {1, 0, nan}, {1, nan, nan}, {nan, nan, 3}, {nan, 3, 1}, {2, 3, 1}, {2, 0, negZero}, {0, 0, negZero}, {1, inf, negInf}, {1, least, 0},
		{1, of(0xfff0000000000001), 3}, {1, negInf, of(0x7ff8000000000000)},
	} {
		got, e := quote.Clamp(r[0], r[1], r[2])
		wantRefused(t, "Clamp", got, e, api.ErrArg)
	}
}
