package quote_test

import (
	"math"
	"strings"
	"testing"

	"gavel/api"
	"gavel/quote"
)

const nanBytes = "\x01\x00\x00\x00\x00\x00\xf8\x7f"

// 5.8
func TestBytes(t *testing.T) {
	for _, r := range []struct {
		x    float64
		want string
	}{
		{0, "\x00\x00\x00\x00\x00\x00\x00\x00"}, {negZero, "\x00\x00\x00\x00\x00\x00\x00\x80"}, {1, "\x00\x00\x00\x00\x00\x00\xf0\x3f"}, {-1.5, "\x00\x00\x00\x00\x00\x00\xf8\xbf"},
		{least, "\x01\x00\x00\x00\x00\x00\x00\x00"}, {-least, "\x01\x00\x00\x00\x00\x00\x00\x80"}, {math.MaxFloat64, "\xff\xff\xff\xff\xff\xff\xef\x7f"}, {-math.MaxFloat64, "\xff\xff\xff\xff\xff\xff\xef\xff"},
		{inf, "\x00\x00\x00\x00\x00\x00\xf0\x7f"}, {negInf, "\x00\x00\x00\x00\x00\x00\xf0\xff"}, {nan, nanBytes}, {of(0x0807060504030201), "\x01\x02\x03\x04\x05\x06\x07\x08"},
	} {
		if got := quote.Bytes(r.x); got != r.want {
			t.Errorf("Bytes(%v) = %x; want %x", r.x, got, r.want)
		}
		x, e := quote.Of(r.want)
		if e != api.OK {
			t.Errorf("Of(%x): %d", r.want, e)
		}
		want(t, "Of", x, r.x)
	}
}

// laid are bits as bytes, the lowest first.
func laid(bits uint64) string {
	var out []byte
	for range 8 {
		out = append(out, byte(bits%256))
		bits /= 256
	}
	return string(out)
}

// 5.8: all that is no number has the NaN's bytes, and only those are read.
func TestBytesOfNoNumber(t *testing.T) {
	for _, b := range noNumbers() {
		if got := quote.Bytes(of(b)); got != nanBytes {
			t.Errorf("Bytes of %x = %x", b, got)
		}
		x, e := quote.Of(laid(b))
		if b != theNaN {
			wantRefused(t, "Of", x, e, api.ErrForm)
			continue
		}
		want(t, "Of the NaN's", x, nan)
		if e != api.OK {
			t.Errorf("Of the NaN's: %d", e)
		}
	}
}

// 5.8: there and back, whatever the bits are.
func TestBytesThereAndBack(t *testing.T) {
	var c chain
	bits := rising()
	for range 5000 {
		bits = append(bits, c.next())
	}
	for _, b := range bits {
		if math.IsNaN(of(b)) {
			continue
		}
		x, e := quote.Of(laid(b))
		if e != api.OK || quote.Bytes(x) != laid(b) {
			t.Errorf("%x came back as %x, %d", laid(b), quote.Bytes(x), e)
		}
		want(t, "Of", x, of(b))
	}
}

// 5.8: how many there are comes ahead of what they are.
func TestOfRefuses(t *testing.T) {
	bad := laid(0xffffffffffffffff)
	for n := range 8 {
		x, e := quote.Of(bad[:n])
		wantRefused(t, "Of fewer", x, e, api.ErrShort)
		x, e = quote.Of(strings.Repeat("\x00", n))
		wantRefused(t, "Of fewer", x, e, api.ErrShort)
	}
	for _, s := range []string{nanBytes + "\x00", laid(0) + "x", bad + bad, laid(0x3ff0000000000000) + "\x00", strings.Repeat("\x00", 1<<21)} {
		x, e := quote.Of(s)
		wantRefused(t, "Of more", x, e, api.ErrTail)
	}
	x, e := quote.Of(bad)
	wantRefused(t, "Of", x, e, api.ErrForm)
}
