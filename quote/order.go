package quote

import (
	"cmp"
	"math"
	"slices"

	"gavel/api"
)

const signBit = 1 << 63

// Rank is a float's place among all: it rises as they do.
func Rank(x float64) uint64 {
	bits := math.Float64bits(x)
	switch {
	case math.IsNaN(x): // asked first, since it may have the sign bit
		return math.MaxUint64
	case bits&signBit != 0:
		return ^bits
	}
	return bits | signBit
}

// Less tells whether a float stands ahead of another one.
func Less(a, b float64) bool { return Rank(a) < Rank(b) }

// Sorted are floats in their order.
func Sorted(l []float64) []float64 {
	out := make([]float64, len(l))
	for i, x := range l {
		out[i] = told(x)
	}
	slices.SortFunc(out, func(a, b float64) int { return cmp.Compare(Rank(a), Rank(b)) })
	return out
}

// Best is the lowest, or the highest, of those that are numbers.
func Best(l []float64, high bool) (float64, bool) {
	better := Less
	if high {
		better = func(a, b float64) bool { return Less(b, a) }
	}
	best, has := 0.0, false
	for _, x := range l {
		if !math.IsNaN(x) && (!has || better(x, best)) {
			best, has = x, true
		}
	}
	return best, has
}

// Median is the one in the middle of those that are numbers, or lies between the two.
func Median(l []float64) float64 {
	numbers := Sorted(l)
	n := len(numbers)
	for n > 0 && math.IsNaN(numbers[n-1]) { // they all stand at the end
		n--
	}
	switch {
	case n == 0:
		return nan()
	case n%2 == 1:
		return numbers[n/2]
	}
	return Mid(numbers[n/2-1], numbers[n/2])
}

// Clamp is a float within bounds.
func Clamp(x, lo, hi float64) (float64, api.Errno) {
	if math.IsNaN(lo) || math.IsNaN(hi) || Less(hi, lo) {
		return 0, api.ErrArg
	}
	switch {
	case math.IsNaN(x):
		return nan(), api.OK
	case Less(x, lo):
		return lo, api.OK
	case Less(hi, x):
		return hi, api.OK
	}
	return x, api.OK
}
