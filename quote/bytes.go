package quote

import (
	"math"

	"gavel/api"
)

const (
	// nanBits are the bits of the one float that stands for all that is no number.
	nanBits = 0x7ff8000000000001
	// floatBytes is how many bytes a float's bits have.
	floatBytes = 8
)

// Bytes are a float's eight bytes.
func Bytes(x float64) string {
	bits := math.Float64bits(told(x))
	var out [floatBytes]byte
	for i := range out {
		out[i] = byte(bits >> (8 * i))
	}
	return string(out[:])
}

// Of is the float of eight bytes.
func Of(s string) (float64, api.Errno) {
	switch {
	case len(s) < floatBytes:
		return 0, api.ErrShort
	case len(s) > floatBytes:
		return 0, api.ErrTail
	}
	var bits uint64
	for i := range floatBytes {
		bits |= uint64(s[i]) << (8 * i)
	}
	x := math.Float64frombits(bits)
	if math.IsNaN(x) && bits != nanBits {
		return 0, api.ErrForm
	}
	return x, api.OK
}

func nan() float64 { return math.Float64frombits(nanBits) }

// told is a float as it is answered. Which bits a machine gives to what is no number hangs on the machine, so they never leave the package.
func told(x float64) float64 {
	if math.IsNaN(x) {
		return nan()
	}
	return x
}
