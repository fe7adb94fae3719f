package wire_test

import (
	"math"
	"reflect"
	"strings"
	"testing"

	"gavel/api"
	"gavel/wire"
)

// wrong are messages that may not be.
func wrong() []api.Signed {
	return []api.Signed{
		{From: -1}, {From: 256}, {From: math.MinInt}, {From: math.MaxInt},
		{Body: strings.Repeat("b", mib+1)}, {Sig: strings.Repeat("s", 33)},
	}
}

// 1.6
func TestPutSigned(t *testing.T) {
	rows := []struct {
		m    api.Signed
		want string
	}{
		{api.Signed{}, "\x00\x00\x00"},
		{api.Signed{From: 3, Body: "body", Sig: "sg"}, "\x03\x04body\x02sg"},
		{api.Signed{From: 255, Body: strings.Repeat("b", mib), Sig: strings.Repeat("s", 32)},
			"\xff\x01\x80\x80\x40" + strings.Repeat("b", mib) + "\x20" + strings.Repeat("s", 32)},
	}
	for _, r := range rows {
		if s, e := wire.PutSigned(r.m); s != r.want || e != api.OK {
			t.Errorf("PutSigned: %.20q, %d; want %.20q", s, e, r.want)
		}
		if m, e := wire.OfSigned(r.want); m != r.m || e != api.OK {
			t.Errorf("OfSigned(%.20q): %d", r.want, e)
		}
	}
	for _, m := range wrong() {
		if s, e := wire.PutSigned(m); s != "" || e != api.ErrField {
			t.Errorf("PutSigned from %d: %d bytes, %d", m.From, len(s), e)
		}
	}
}

// 1.6
func TestOfSignedRefuses(t *testing.T) {
	rows := []struct {
		name, s string
		want    api.Errno
	}{
		{"nothing", "", api.ErrShort},
		{"no signature", "\x00\x00", api.ErrShort},
		{"a body short", "\x00\x02b", api.ErrShort},
		{"a tail", "\x00\x00\x00\x00", api.ErrTail},
		{"from 256", "\x80\x02\x00\x00", api.ErrField},
		{"from 256, a tail", "\x80\x02\x00\x00\x00", api.ErrTail},
		{"from 2^53", greatest + "\x00\x00", api.ErrField},
		{"from above 2^53", beyond + "\x00\x00", api.ErrForm},
		{"a long form", "\x80\x00\x00\x00", api.ErrForm},
		{"a body too long", "\x00\x81\x80\x40" + strings.Repeat("b", mib+1) + "\x00", api.ErrLong},
		{"a signature too long", "\x00\x00\x81\x80\x40", api.ErrLong},
		{"a signature of 33", "\x00\x00\x21" + strings.Repeat("s", 33), api.ErrField},
		{"a signature of 2^20", "\x00\x00\x80\x80\x40" + strings.Repeat("s", mib), api.ErrField},
		{"2^21 bytes", "\x00\x00\x00" + strings.Repeat("x", 2*mib-3), api.ErrTail},
		{"more than 2^21 bytes", "\x00\x00\x00" + strings.Repeat("x", 2*mib-2), api.ErrLong},
		{"more than 2^21 bytes, in no form", strings.Repeat("\x80", 2*mib+1), api.ErrLong},
	}
	for _, r := range rows {
		if m, e := wire.OfSigned(r.s); m != (api.Signed{}) || e != r.want {
			t.Errorf("%s: %d; want %d", r.name, e, r.want)
		}
	}
}

// 1.7
func TestBatch(t *testing.T) {
	four := []api.Signed{{From: 100, Body: "a", Sig: "s"}, {From: 101}, {Body: "c"}, {From: 255, Sig: "tt"}}
	rows := []struct {
		l    []api.Signed
		want string
	}{
		{nil, "\x00"},
		{four[:1], "\x01\x64\x01a\x01s"},
		{four, "\x04\x64\x01a\x01s\x65\x00\x00\x00\x01c\x00\xff\x01\x00\x02tt"},
	}
	for _, r := range rows {
		if s, e := wire.Batch(r.l); s != r.want || e != api.OK {
			t.Errorf("Batch(%v) = %q, %d", r.l, s, e)
		}
		if l, e := wire.OfBatch(r.want); !reflect.DeepEqual(l, r.l) || e != api.OK {
			t.Errorf("OfBatch(%q) = %v, %d", r.want, l, e)
		}
	}
	if s, e := wire.Batch([]api.Signed{}); s != "\x00" || e != api.OK {
		t.Errorf("an empty list: %q, %d", s, e)
	}
}

// 1.7
func TestBatchRefuses(t *testing.T) {
	for _, m := range wrong() {
		if s, e := wire.Batch([]api.Signed{{}, {}, {}, m}); s != "" || e != api.ErrField {
			t.Errorf("a message from %d: %d bytes, %d", m.From, len(s), e)
		}
		if s, e := wire.Batch([]api.Signed{m, {}, {}, {}, {}}); s != "" || e != api.ErrFull {
			t.Errorf("five, one from %d: %d bytes, %d", m.From, len(s), e)
		}
	}
	half := api.Signed{Body: strings.Repeat("b", mib/2)}
	long := []api.Signed{half, {Body: strings.Repeat("b", mib/2-11)}} // 1 for the count, 5 around each body
	s, e := wire.Batch(long)
	if len(s) != mib || e != api.OK {
		t.Errorf("at the most: %d bytes, %d", len(s), e)
	}
	if l, e := wire.OfBatch(s); !reflect.DeepEqual(l, long) || e != api.OK {
		t.Errorf("read at the most: %d", e)
	}
	long[1].Body += "b"
	if s, e := wire.Batch(long); s != "" || e != api.ErrLong {
		t.Errorf("above the most: %d bytes, %d", len(s), e)
	}
	long[1].From = 256
	if s, e := wire.Batch(long); s != "" || e != api.ErrField {
		t.Errorf("a field and a length: %d bytes, %d", len(s), e)
	}
}

// 1.7
func TestOfBatchRefuses(t *testing.T) {
	rows := []struct {
		name, s string
		want    api.Errno
	}{
		{"nothing", "", api.ErrShort},
		{"a message lacks", "\x02\x00\x00\x00", api.ErrShort},
		{"four, none there", "\x04", api.ErrShort},
		{"five", "\x05", api.ErrFull},
		{"five, all there", "\x05" + strings.Repeat("\x00\x00\x00", 5), api.ErrFull},
		{"a count in long form", "\x80\x00", api.ErrForm},
		{"a tail", "\x00\x00", api.ErrTail},
		{"from 256", "\x01\x80\x02\x00\x00", api.ErrField},
		{"from 256, a tail", "\x01\x80\x02\x00\x00\x00", api.ErrTail},
		{"from 256, then short", "\x02\x80\x02\x00\x00", api.ErrShort},
		{"a body too long", "\x01\x00\x81\x80\x40", api.ErrLong},
		{"too long", "\x00" + strings.Repeat("x", mib), api.ErrLong},
		{"just not too long", "\x00" + strings.Repeat("x", mib-1), api.ErrTail},
	}
	for _, r := range rows {
		if l, e := wire.OfBatch(r.s); len(l) != 0 || e != r.want {
			t.Errorf("%s: %d messages, %d; want %d", r.name, len(l), e, r.want)
		}
	}
}
