package wire_test

import (
	"math"
	"strings"
	"testing"

	"gavel/api"
	"gavel/wire"
)

// sameOp holds prices against each other bit by bit.
func sameOp(a, b api.Op) bool {
	bits := math.Float64bits(a.Price) == math.Float64bits(b.Price)
	a.Price, b.Price = 0, 0
	return bits && a == b
}

// 1.10
func TestPutOp(t *testing.T) {
	const big = 1 << 53
	rows := []struct {
		o    api.Op
		want string
	}{
		{api.Op{}, strings.Repeat("\x00", 13)},
		{api.Op{Kind: 1, Price: 1}, "\x01\x00\x00\x00\x00\x00\x00\x00\x00\x00\x00\xf0\x3f"},
		{api.Op{Kind: 8, Good: 3, Amount: 300, Side: 1, Id: 7, Price: -1.5}, "\x08\x03\xac\x02\x01\x07\x00\x00\x00\x00\x00\x00\xf8\xbf"},
		{api.Op{Kind: big, Good: big, Amount: big, Side: big, Id: big}, strings.Repeat(greatest, 5) + strings.Repeat("\x00", 8)},
		{api.Op{Price: math.Float64frombits(0x0807060504030201)}, "\x00\x00\x00\x00\x00\x01\x02\x03\x04\x05\x06\x07\x08"},
	}
	for _, r := range rows {
		if s, e := wire.PutOp(r.o); s != r.want || e != api.OK {
			t.Errorf("PutOp(%v) = %q, %d", r.o, s, e)
		}
		if o, e := wire.OfOp(r.want); !sameOp(o, r.o) || e != api.OK {
			t.Errorf("OfOp(%q) = %v, %d", r.want, o, e)
		}
	}
}

// 1.10: whatever a price is, its bits come back.
func TestPricesBitByBit(t *testing.T) {
	for _, bits := range []uint64{
		0, 1, 1 << 63, 1<<63 | 1, 0x7fefffffffffffff, 0x7ff0000000000000, 0xfff0000000000000,
		0x7ff8000000000000, 0x7ff8000000000001, 0x7ff0000000000001, 0xfff0000000000001, 0xffffffffffffffff, 0x8182838485868788,
	} {
		s, e := wire.PutOp(api.Op{Kind: 2, Price: math.Float64frombits(bits)})
		if e != api.OK {
			t.Errorf("%x: %d", bits, e)
		}
		o, e := wire.OfOp(s)
		if got := math.Float64bits(o.Price); got != bits || e != api.OK {
			t.Errorf("%x came back as %x, %d", bits, got, e)
		}
	}
}

// 1.10
func TestPutOpRefuses(t *testing.T) {
	for _, n := range []int{-1, 1<<53 + 1, math.MinInt, math.MaxInt} {
		for _, o := range []api.Op{{Kind: n}, {Good: n}, {Amount: n}, {Side: n}, {Id: n}} {
			o.Price = 1
			if s, e := wire.PutOp(o); s != "" || e != api.ErrField {
				t.Errorf("PutOp(%v) = %q, %d", o, s, e)
			}
		}
	}
}

// 1.10
func TestOfOpRefuses(t *testing.T) {
	zero := strings.Repeat("\x00", 13)
	rows := []struct {
		name, s string
		want    api.Errno
	}{
		{"nothing", "", api.ErrShort},
		{"no price", zero[:5], api.ErrShort},
		{"a byte of the price lacks", zero[:12], api.ErrShort},
		{"a tail", zero + "\x00", api.ErrTail},
		{"a long form", "\x80" + zero, api.ErrForm},
		{"a number too great", "\x00\x00" + beyond + zero, api.ErrForm},
		{"256 bytes", zero + strings.Repeat("x", 243), api.ErrTail},
		{"257 bytes", zero + strings.Repeat("x", 244), api.ErrLong},
		{"257 bytes in no form", strings.Repeat("\x80", 257), api.ErrLong},
	}
	for _, r := range rows {
		if o, e := wire.OfOp(r.s); o != (api.Op{}) || e != r.want {
			t.Errorf("%s: %v, %d; want %d", r.name, o, e, r.want)
		}
	}
}
