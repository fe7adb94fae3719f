package wire_test

import (
	"reflect"
	"strconv"
	"strings"
	"testing"

	"gavel/api"
	"gavel/wire"
)

// numbered are so many rising records with values of so many bytes.
func numbered(n, bytes int) []api.Record {
	var l []api.Record
	for i := range n {
		l = append(l, api.Record{Key: strconv.Itoa(10000 + i), Value: strings.Repeat("v", bytes)})
	}
	return l
}

// 1.8
func TestPutRecords(t *testing.T) {
	key := strings.Repeat("k", 64)
	value := strings.Repeat("v", 4096)
	rows := []struct {
		l    []api.Record
		want string
	}{
		{nil, "\x00"},
		{[]api.Record{{Key: "a", Value: "1"}, {Key: "b"}}, "\x02\x01a\x011\x01b\x00"},
		{[]api.Record{{Key: "\x00"}, {Key: "\x00\x00"}, {Key: "a"}, {Key: "ab"}, {Key: "b"}, {Key: "\x80"}, {Key: "\xff"}},
			"\x07\x01\x00\x00\x02\x00\x00\x00\x01a\x00\x02ab\x00\x01b\x00\x01\x80\x00\x01\xff\x00"},
		{[]api.Record{{Key: key, Value: value}}, "\x01\x40" + key + "\x80\x20" + value},
	}
	for _, r := range rows {
		if s, e := wire.PutRecords(r.l); s != r.want || e != api.OK {
			t.Errorf("PutRecords: %.40q, %d; want %.40q", s, e, r.want)
		}
		if l, e := wire.OfRecords(r.want); !reflect.DeepEqual(l, r.l) || e != api.OK {
			t.Errorf("OfRecords(%.40q): %d records, %d", r.want, len(l), e)
		}
	}
	all := numbered(4096, 100)
	s, e := wire.PutRecords(all)
	if e != api.OK {
		t.Fatalf("4096 records: %d", e)
	}
	if l, e := wire.OfRecords(s); !reflect.DeepEqual(l, all) || e != api.OK {
		t.Fatalf("4096 records read: %d, %d", len(l), e)
	}
}

// mistaken are records that may not be, and why.
func mistaken() map[string]struct {
	l    []api.Record
	want api.Errno
} {
	key, value := strings.Repeat("k", 65), strings.Repeat("v", 4097)
	type row = struct {
		l    []api.Record
		want api.Errno
	}
	return map[string]row{
		"no key":                {[]api.Record{{Value: "v"}}, api.ErrField},
		"no key behind one":     {[]api.Record{{Key: "a"}, {}}, api.ErrField},
		"a key of 65":           {[]api.Record{{Key: key}}, api.ErrField},
		"a value of 4097":       {[]api.Record{{Key: "a", Value: value}}, api.ErrField},
		"a key twice":           {[]api.Record{{Key: "a"}, {Key: "a", Value: "1"}}, api.ErrOrder},
		"keys that fall":        {[]api.Record{{Key: "b"}, {Key: "a"}}, api.ErrOrder},
		"a key, its beginning":  {[]api.Record{{Key: "ab"}, {Key: "a"}}, api.ErrOrder},
		"a high byte first":     {[]api.Record{{Key: "\x80"}, {Key: "\x7f"}}, api.ErrOrder},
		"a fall behind a rise":  {[]api.Record{{Key: "a"}, {Key: "c"}, {Key: "b"}}, api.ErrOrder},
		"a fall, then a field":  {[]api.Record{{Key: "b"}, {Key: "a"}, {Key: key}}, api.ErrOrder},
		"a field, then a fall":  {[]api.Record{{Key: "b", Value: value}, {Key: "a"}}, api.ErrField},
		"both in one record":    {[]api.Record{{Key: "b"}, {Key: "a", Value: value}}, api.ErrField},
		"a fall from one ahead": {[]api.Record{{Key: "a"}, {Key: "b"}, {Key: "a"}}, api.ErrOrder},
	}
}

// layFreely lays records though they may not be.
func layFreely(l []api.Record) string {
	s, _ := wire.PutInt(len(l))
	for _, x := range l {
		k, _ := wire.PutText(x.Key)
		v, _ := wire.PutText(x.Value)
		s += k + v
	}
	return s
}

// 1.8
func TestRecordsThatMayNotBe(t *testing.T) {
	for name, r := range mistaken() {
		if s, e := wire.PutRecords(r.l); s != "" || e != r.want {
			t.Errorf("PutRecords, %s: %d bytes, %d; want %d", name, len(s), e, r.want)
		}
		s := layFreely(r.l)
		if l, e := wire.OfRecords(s); len(l) != 0 || e != r.want {
			t.Errorf("OfRecords, %s: %d records, %d; want %d", name, len(l), e, r.want)
		}
		if l, e := wire.OfRecords(s + "\x00"); len(l) != 0 || e != api.ErrTail {
			t.Errorf("OfRecords, %s, a tail: %d records, %d", name, len(l), e)
		}
	}
	if s, e := wire.PutRecords(make([]api.Record, 4097)); s != "" || e != api.ErrFull {
		t.Errorf("4097 records: %d bytes, %d", len(s), e)
	}
}

// 1.8
func TestPutRecordsTooLong(t *testing.T) {
	l := numbered(256, 4096-8) // each: 1 + 5 for its key, 2 for its value's length
	s, e := wire.PutRecords(l)
	if s != "" || e != api.ErrLong {
		t.Errorf("two bytes above the most: %d bytes, %d", len(s), e)
	}
	l[0].Value = l[0].Value[1:]
	if s, e := wire.PutRecords(l); s != "" || e != api.ErrLong {
		t.Errorf("a byte above the most: %d bytes, %d", len(s), e)
	}
	l[0].Value = l[0].Value[1:]
	if s, e = wire.PutRecords(l); len(s) != mib || e != api.OK {
		t.Errorf("at the most: %d bytes, %d", len(s), e)
	}
	if got, e := wire.OfRecords(s); !reflect.DeepEqual(got, l) || e != api.OK {
		t.Errorf("read at the most: %d", e)
	}
	l = numbered(4096, 4096)
	l[4095].Key = "0"
	if s, e := wire.PutRecords(l); s != "" || e != api.ErrOrder {
		t.Errorf("an order and a length: %d bytes, %d", len(s), e)
	}
}

// 1.8
func TestOfRecordsRefuses(t *testing.T) {
	rows := []struct {
		name, s string
		want    api.Errno
	}{
		{"nothing", "", api.ErrShort},
		{"4096, none there", "\x80\x20", api.ErrShort},
		{"4097", "\x81\x20", api.ErrFull},
		{"2^53", greatest, api.ErrFull},
		{"a count above 2^53", beyond, api.ErrForm},
		{"a value lacks", "\x01\x01a", api.ErrShort},
		{"a key that falls, then short", "\x02\x01b\x00\x01a", api.ErrShort},
		{"a key too long to be a text", "\x01\x81\x80\x40", api.ErrLong},
		{"a value in long form", "\x01\x01a\x80\x00", api.ErrForm},
		{"a tail", "\x00\x00", api.ErrTail},
		{"too long", "\x00" + strings.Repeat("x", mib), api.ErrLong},
		{"just not too long", "\x00" + strings.Repeat("x", mib-1), api.ErrTail},
	}
	for _, r := range rows {
		if l, e := wire.OfRecords(r.s); len(l) != 0 || e != r.want {
			t.Errorf("%s: %d records, %d; want %d", r.name, len(l), e, r.want)
		}
	}
}
