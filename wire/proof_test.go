package wire_test

import (
	"math"
	"reflect"
	"strings"
	"testing"

	"gavel/api"
	"gavel/wire"
)

// greatestPath is a path at all its limits.
func greatestPath() api.Path {
	x := api.Path{Index: 4095, Key: strings.Repeat("k", 64), Value: strings.Repeat("v", 4096)}
	for range 13 {
		x.Sides = append(x.Sides, strings.Repeat("s", 32))
	}
	return x
}

// 1.9
func TestPutProof(t *testing.T) {
	sides := "\x0d" + strings.Repeat("\x20"+strings.Repeat("s", 32), 13)
	path := "\xff\x1f\x40" + strings.Repeat("k", 64) + "\x80\x20" + strings.Repeat("v", 4096) + sides
	rows := []struct {
		p    api.Proof
		want string
	}{
		{api.Proof{}, "\x00\x00"},
		{api.Proof{Count: 3, Paths: []api.Path{{Index: 1, Key: "k", Value: "vv", Sides: []string{"a", "", "bc"}}, {}}},
			"\x03\x02\x01\x01k\x02vv\x03\x01a\x00\x02bc\x00\x00\x00\x00"},
		{api.Proof{Count: 4096, Paths: []api.Path{greatestPath(), greatestPath()}}, "\x80\x20\x02" + path + path},
	}
	for _, r := range rows {
		if s, e := wire.PutProof(r.p); s != r.want || e != api.OK {
			t.Errorf("PutProof: %.40q, %d; want %.40q", s, e, r.want)
		}
		if p, e := wire.OfProof(r.want); !reflect.DeepEqual(p, r.p) || e != api.OK {
			t.Errorf("OfProof(%.40q): %v, %d", r.want, p, e)
		}
	}
}

// 1.9
func TestProofsThatMayNotBe(t *testing.T) {
	many := make([]string, 14)
	long := []string{"a", strings.Repeat("s", 33)}
	var rows []api.Proof
	for _, n := range []int{-1, 4097, math.MinInt, math.MaxInt} {
		rows = append(rows, api.Proof{Count: n})
	}
	rows = append(rows, api.Proof{Paths: make([]api.Path, 3)})
	for _, x := range []api.Path{
		{Index: -1}, {Index: 4096}, {Index: math.MinInt}, {Index: math.MaxInt},
		{Key: strings.Repeat("k", 65)}, {Value: strings.Repeat("v", 4097)}, {Sides: many}, {Sides: long},
	} {
		rows = append(rows, api.Proof{Paths: []api.Path{x}}, api.Proof{Paths: []api.Path{{}, x}})
	}
	for i, p := range rows {
		if s, e := wire.PutProof(p); s != "" || e != api.ErrField {
			t.Errorf("row %d: %d bytes, %d", i, len(s), e)
		}
	}
}

// 1.9
func TestOfProofRefuses(t *testing.T) {
	rows := []struct {
		name, s string
		want    api.Errno
	}{
		{"nothing", "", api.ErrShort},
		{"a path lacks", "\x00\x01", api.ErrShort},
		{"a side lacks", "\x00\x01\x00\x00\x00\x01", api.ErrShort},
		{"three paths", "\x00\x03", api.ErrFull},
		{"14 sides", "\x00\x01\x00\x00\x00\x0e", api.ErrFull},
		{"13 sides, none there", "\x00\x01\x00\x00\x00\x0d", api.ErrShort},
		{"a count of 4097", "\x81\x20\x00", api.ErrField},
		{"a count of 4097, three paths", "\x81\x20\x03", api.ErrFull},
		{"a count of 4097, a tail", "\x81\x20\x00\x00", api.ErrTail},
		{"a count above 2^53", beyond + "\x00", api.ErrForm},
		{"an index of 4096", "\x00\x01\x80\x20\x00\x00\x00", api.ErrField},
		{"an index of 4096 in the second", "\x00\x02\x00\x00\x00\x00\x80\x20\x00\x00\x00", api.ErrField},
		{"a key of 65", "\x00\x01\x00\x41" + strings.Repeat("k", 65) + "\x00\x00", api.ErrField},
		{"a value of 4097", "\x00\x01\x00\x00\x81\x20" + strings.Repeat("v", 4097) + "\x00", api.ErrField},
		{"a side of 33", "\x00\x01\x00\x00\x00\x01\x21" + strings.Repeat("s", 33), api.ErrField},
		{"a side too long to be a text", "\x00\x01\x00\x00\x00\x01\x81\x80\x40", api.ErrLong},
		{"an index in long form", "\x00\x01\x80\x00\x00\x00\x00", api.ErrForm},
		{"a tail", "\x00\x00\x00", api.ErrTail},
		{"too long", "\x00\x00" + strings.Repeat("x", mib-1), api.ErrLong},
		{"just not too long", "\x00\x00" + strings.Repeat("x", mib-2), api.ErrTail},
	}
	for _, r := range rows {
		if p, e := wire.OfProof(r.s); !reflect.DeepEqual(p, api.Proof{}) || e != r.want {
			t.Errorf("%s: %v, %d; want %d", r.name, p, e, r.want)
		}
	}
}
