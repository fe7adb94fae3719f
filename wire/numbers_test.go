package wire_test

import (
	"math"
	"strings"
	"testing"

	"gavel/api"
	"gavel/wire"
)

const (
	kib = 1 << 10
	mib = 1 << 20
)

// greatest and beyond are the bytes of 2^53 and of 2^53 + 1.
const (
	greatest = "\x80\x80\x80\x80\x80\x80\x80\x10"
	beyond   = "\x81\x80\x80\x80\x80\x80\x80\x10"
)

// 1.1
func TestPutInt(t *testing.T) {
	rows := []struct {
		n    int
		want string
	}{
		{0, "\x00"}, {1, "\x01"}, {127, "\x7f"}, {128, "\x80\x01"}, {300, "\xac\x02"},
		{1<<14 - 1, "\xff\x7f"}, {1 << 14, "\x80\x80\x01"},
		{1<<49 - 1, "\xff\xff\xff\xff\xff\xff\x7f"}, {1 << 49, "\x80\x80\x80\x80\x80\x80\x80\x01"},
		{1<<53 - 1, "\xff\xff\xff\xff\xff\xff\xff\x0f"}, {1 << 53, greatest},
	}
	for _, r := range rows {
		if s, e := wire.PutInt(r.n); s != r.want || e != api.OK {
			t.Errorf("PutInt(%d) = %q, %d", r.n, s, e)
		}
		if n, next, e := wire.GetInt(r.want, 0); n != r.n || next != len(r.want) || e != api.OK {
			t.Errorf("GetInt(%q) = %d, %d, %d", r.want, n, next, e)
		}
	}
	for _, n := range []int{-1, 1<<53 + 1, math.MinInt, math.MaxInt} {
		if s, e := wire.PutInt(n); s != "" || e != api.ErrArg {
			t.Errorf("PutInt(%d) = %q, %d", n, s, e)
		}
	}
}

// 1.1
func TestGetIntReadsFromAPlace(t *testing.T) {
	s := "x" + "\xac\x02" + "\x05"
	for _, r := range [][3]int{{1, 300, 3}, {2, 2, 3}, {3, 5, 4}} {
		if n, next, e := wire.GetInt(s, r[0]); n != r[1] || next != r[2] || e != api.OK {
			t.Errorf("at %d: %d, %d, %d", r[0], n, next, e)
		}
	}
}

// 1.1
func TestGetIntRefuses(t *testing.T) {
	rows := []struct {
		s    string
		at   int
		want api.Errno
	}{
		{"\x01", -1, api.ErrArg}, {"\x01", 2, api.ErrArg}, {"", 1, api.ErrArg},
		{"\x01", math.MinInt, api.ErrArg}, {"\x01", math.MaxInt, api.ErrArg},
		{"", 0, api.ErrShort}, {"\x01", 1, api.ErrShort}, {"\x80", 0, api.ErrShort},
		{strings.Repeat("\x80", 7), 0, api.ErrShort}, {strings.Repeat("\xff", 7), 0, api.ErrShort},
		{"\x80\x00", 0, api.ErrForm}, {"\xff\x00", 0, api.ErrForm}, {"\x80\x80\x00", 0, api.ErrForm},
		{strings.Repeat("\x80", 7) + "\x00", 0, api.ErrForm},
		{strings.Repeat("\x80", 8), 0, api.ErrForm}, {strings.Repeat("\x80", 8) + "\x01", 0, api.ErrForm},
		{strings.Repeat("\xff", 40), 0, api.ErrForm},
		{beyond, 0, api.ErrForm}, {strings.Repeat("\xff", 7) + "\x7f", 0, api.ErrForm},
		{strings.Repeat("\x80", 7) + "\x11", 0, api.ErrForm},
	}
	for _, r := range rows {
		if n, next, e := wire.GetInt(r.s, r.at); n != 0 || next != 0 || e != r.want {
			t.Errorf("GetInt(%q, %d) = %d, %d, %d; want %d", r.s, r.at, n, next, e, r.want)
		}
	}
}

// 1.2
func TestPutText(t *testing.T) {
	rows := []struct{ text, head string }{
		{"", "\x00"}, {"abc", "\x03"}, {"\x00\xff", "\x02"},
		{strings.Repeat("x", 127), "\x7f"}, {strings.Repeat("x", 128), "\x80\x01"},
		{strings.Repeat("y", mib), "\x80\x80\x40"},
	}
	for _, r := range rows {
		s, e := wire.PutText(r.text)
		if s != r.head+r.text || e != api.OK {
			t.Errorf("PutText of %d bytes: %d bytes, %d", len(r.text), len(s), e)
		}
		text, next, e := wire.GetText("ab"+s+"\x01", 2)
		if text != r.text || next != 2+len(s) || e != api.OK {
			t.Errorf("GetText of %d bytes: %d bytes, next %d, %d", len(r.text), len(text), next, e)
		}
	}
	if s, e := wire.PutText(strings.Repeat("x", mib+1)); s != "" || e != api.ErrLong {
		t.Errorf("a text too long: %d bytes, %d", len(s), e)
	}
}

// 1.2
func TestGetTextRefuses(t *testing.T) {
	rows := []struct {
		s    string
		at   int
		want api.Errno
	}{
		{"\x00", -1, api.ErrArg}, {"\x00", 2, api.ErrArg}, {"", math.MaxInt, api.ErrArg}, {"", math.MinInt, api.ErrArg},
		{"", 0, api.ErrShort}, {"\x00", 1, api.ErrShort}, {"\x80", 0, api.ErrShort},
		{"\x01", 0, api.ErrShort}, {"\x03ab", 0, api.ErrShort}, {"xx\x03ab", 2, api.ErrShort},
		{"\x80\x80\x40", 0, api.ErrShort},
		{"\x80\x00", 0, api.ErrForm}, {strings.Repeat("\x80", 8), 0, api.ErrForm}, {beyond, 0, api.ErrForm},
		{"\x81\x80\x40", 0, api.ErrLong}, {greatest, 0, api.ErrLong},
		{"\x81\x80\x40" + strings.Repeat("x", mib+1), 0, api.ErrLong},
	}
	for _, r := range rows {
		if text, next, e := wire.GetText(r.s, r.at); text != "" || next != 0 || e != r.want {
			t.Errorf("GetText(%.20q, %d) = %.20q, %d, %d; want %d", r.s, r.at, text, next, e, r.want)
		}
	}
}
