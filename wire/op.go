package wire

import (
	"math"

	"gavel/api"
)

// priceBytes is how many bytes a price's bits have.
const priceBytes = 8

// PutOp lays a request of the house.
func PutOp(o api.Op) (string, api.Errno) {
	var out []byte
	for _, n := range [...]int{o.Kind, o.Good, o.Amount, o.Side, o.Id} {
		if !isNumber(n) {
			return "", api.ErrField
		}
		out = layInt(out, n)
	}
	return string(layPrice(out, o.Price)), api.OK
}

// OfOp reads a request of the house.
func OfOp(s string) (o api.Op, e api.Errno) {
	defer func() {
		if p := recover(); p != nil {
			o, e = api.Op{}, reason(p)
		}
	}()
	r := readerOf(s, api.MaxOp)
	o = r.op()
	r.end()
	return o, api.OK
}

func layPrice(out []byte, price float64) []byte {
	bits := math.Float64bits(price)
	for i := range priceBytes {
		out = append(out, byte(bits>>(8*i)))
	}
	return out
}

func (r *reader) op() api.Op {
	var o api.Op
	o.Kind = r.number()
	o.Good = r.number()
	o.Amount = r.number()
	o.Side = r.number()
	o.Id = r.number()
	o.Price = r.price()
	return o
}

func (r *reader) price() float64 {
	var bits uint64
	for i := range priceBytes {
		bits |= uint64(r.next()) << (8 * i)
	}
	return math.Float64frombits(bits)
}
