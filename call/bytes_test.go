package call_test

import (
	"reflect"
	"strconv"
	"strings"
	"testing"

	"gavel/api"
	"gavel/call"
)

func wantNoState(t *testing.T, what, s string) {
	t.Helper()
	if b, e := call.Of(s); b != nil || e != api.ErrState {
		t.Errorf("%s: Of(%.60q) = %v, %d", what, s, b, e)
	}
}

// thereAndBack is the book of a book's bytes, which tells the same.
func thereAndBack(t *testing.T, b *call.Book) *call.Book {
	t.Helper()
	c := of(t, b.Bytes())
	if x, y := tell(b), tell(c); !reflect.DeepEqual(x, y) {
		t.Fatalf("there and back\n%v\nis\n%v", x, y)
	}
	return c
}

// 8.4: books behind each kind of call.
func TestBytes(t *testing.T) {
	b := call.New()
	for _, x := range []struct {
		do   func() api.Errno
		want string
	}{
		{func() api.Errno { return api.OK }, "\x01\x00"},
		{func() api.Errno { return b.Put(buy(7, 3, 10, 5)) }, "\x02\x01\x07\x03\x00\x0a\x05\x01"},
		{func() api.Errno { return b.Put(sell(300, 15, 20, 129)) }, "\x03\x02\x07\x03\x00\x0a\x05\x01\xac\x02\x0f\x01\x14\x81\x01\x02"},
		{func() api.Errno { return b.Amend(7, 3, 10, 4) }, "\x03\x02\x07\x03\x00\x0a\x04\x01\xac\x02\x0f\x01\x14\x81\x01\x02"},
		{func() api.Errno { return b.Amend(7, 3, 20, 4) }, "\x04\x02\xac\x02\x0f\x01\x14\x81\x01\x02\x07\x03\x00\x14\x04\x03"},
		{func() api.Errno { b.Clear(); return api.OK }, "\x04\x01\xac\x02\x0f\x01\x14\x7d\x02"},
		{func() api.Errno { return b.Cancel(300, 15) }, "\x04\x00"},
		{func() api.Errno { return b.Put(sell(0, 0, 0, 1)) }, "\x05\x01\x00\x00\x01\x00\x01\x04"},
	} {
		if e := x.do(); e != api.OK {
			t.Fatal(e)
		}
		if s := b.Bytes(); s != x.want {
			t.Errorf("%q, want %q", s, x.want)
		}
		thereAndBack(t, b)
	}
	c := thereAndBack(t, full(t))
	if !strings.HasPrefix(c.Bytes(), "\x41\x40\x64\x00\x00\x05\x01\x01\x65\x01\x01\x05\x02\x02") {
		t.Errorf("of 64 orders %q", c.Bytes())
	}
}

// 8.4: a book that was read goes on as the one that was laid, and the two do not know each other.
func TestOfGoesOn(t *testing.T) {
	b := bookOf(t, buy(7, 3, 10, 5), sell(8, 4, 20, 6), buy(9, 3, 1, 1))
	c := of(t, b.Bytes())
	wantPut(t, c, "there", sell(8, 0, 1, 1), api.ErrThere)
	wantAmend(t, c, "another one's", 8, 3, 20, 6, api.ErrOwner)
	wantAmend(t, c, "moved", 8, 4, 10, 2, api.OK)
	wantOrders(t, c, at(1, buy(7, 3, 10, 5)), at(3, buy(9, 3, 1, 1)), at(4, sell(8, 4, 10, 2)))
	wantClear(t, c, 10, 2, api.Fill{Id: 7, Owner: 3, Amount: 2}, api.Fill{Id: 8, Owner: 4, Amount: 2})
	put(t, c, sell(8, 4, 20, 6))
	wantOrders(t, c, at(1, buy(7, 3, 10, 3)), at(3, buy(9, 3, 1, 1)), at(5, sell(8, 4, 20, 6)))
	wantOrders(t, b, at(1, buy(7, 3, 10, 5)), at(2, sell(8, 4, 20, 6)), at(3, buy(9, 3, 1, 1)))
	put(t, b, buy(10, 0, 1, 1))
	wantOrders(t, b, at(1, buy(7, 3, 10, 5)), at(2, sell(8, 4, 20, 6)), at(3, buy(9, 3, 1, 1)), at(4, buy(10, 0, 1, 1)))
}

// rows are the numbers of n orders, of the Ids and places from 1 on, behind the next place and how many.
func rows(next, count, n int) []int {
	l := []int{next, count}
	for i := range n {
		l = append(l, 1+i, i%16, i%2, 5, 1, 1+i)
	}
	return l
}

// 8.4: the edges of what a book may be.
func TestOfAtTheEdges(t *testing.T) {
	for name, l := range map[string][]int{
		"nothing":                      {1, 0},
		"nothing any more":             {9, 0},
		"nothing, out of places":       {end, 0},
		"the least order":              {2, 1, 0, 0, 0, 0, 1, 1},
		"the greatest order":           {end, 1, end, 15, 1, top, lot, end - 1},
		"it buys":                      {2, 1, 7, 3, 0, 10, 5, 1},
		"it sells":                     {2, 1, 7, 3, 1, 10, 5, 1},
		"a place that is not the last": {9, 1, 7, 3, 1, 10, 5, 4},
		"places with gaps":             {9, 2, 7, 3, 1, 10, 5, 2, 8, 3, 1, 10, 5, 8},
		"places without gaps":          {9, 2, 7, 3, 1, 10, 5, 7, 8, 3, 1, 10, 5, 8},
		"Ids that fall":                {3, 2, 8, 3, 1, 10, 5, 1, 7, 3, 1, 10, 5, 2},
		"what could be traded":         {3, 2, 8, 3, 0, 10, 5, 1, 7, 3, 1, 10, 5, 2},
		"64 orders":                    rows(65, 64, 64),
		"63 orders":                    rows(64, 63, 63),
	} {
		b, e := call.Of(laid(l...))
		if b == nil || e != api.OK {
			t.Errorf("%s: %v, %d", name, b, e)
			continue
		}
		var want []api.Order
		for i := 2; i < len(l); i += 6 {
			want = append(want, api.Order{Id: l[i], Owner: l[i+1], Buys: l[i+2] == 0, Price: l[i+3], Amount: l[i+4], Place: l[i+5]})
		}
		wantOrders(t, b, want...)
		if s := b.Bytes(); s != laid(l...) {
			t.Errorf("%s: and back %q", name, s)
		}
		if l[0] < end && l[1] < 64 {
			put(t, b, sell(99, 1, top, 1))
			wantOrders(t, b, append(want, at(l[0], sell(99, 1, top, 1)))...)
		}
	}
}

// 8.4: numbers that no book has.
func TestOfRefusesNumbers(t *testing.T) {
	const beyond = end + 1
	for name, l := range map[string][]int{
		"no numbers":                           {},
		"a next place alone":                   {1},
		"a next place of 0":                    {0, 0},
		"a next place of 0, with an order":     {0, 1, 7, 3, 0, 10, 5, 1},
		"a next place beyond all numbers":      {beyond, 0},
		"an Id beyond all numbers":             {2, 1, beyond, 3, 0, 10, 5, 1},
		"an owner of 16":                       {2, 1, 7, 16, 0, 10, 5, 1},
		"a side of 2":                          {2, 1, 7, 3, 2, 10, 5, 1},
		"a side of 2^53":                       {2, 1, 7, 3, end, 10, 5, 1},
		"a price above 2^40":                   {2, 1, 7, 3, 0, top + 1, 5, 1},
		"an amount of 0":                       {2, 1, 7, 3, 0, 10, 0, 1},
		"an amount above 2^20":                 {2, 1, 7, 3, 0, 10, lot + 1, 1},
		"a place of 0":                         {2, 1, 7, 3, 0, 10, 5, 0},
		"a place that is the next one":         {2, 1, 7, 3, 0, 10, 5, 2},
		"a place above the next one":           {2, 1, 7, 3, 0, 10, 5, 3},
		"a place of 2^53":                      {end, 1, 7, 3, 0, 10, 5, end},
		"two of one Id":                        {3, 2, 7, 3, 0, 10, 5, 1, 7, 4, 1, 11, 6, 2},
		"two of one Id, one between":           {4, 3, 7, 3, 0, 10, 5, 1, 8, 4, 1, 11, 6, 2, 7, 3, 0, 10, 5, 3},
		"two of one place":                     {3, 2, 7, 3, 0, 10, 5, 1, 8, 4, 1, 11, 6, 1},
		"places that fall":                     {3, 2, 7, 3, 0, 10, 5, 2, 8, 4, 1, 11, 6, 1},
		"a last place that falls":              {9, 3, 7, 3, 0, 10, 5, 2, 8, 4, 1, 11, 6, 4, 9, 4, 1, 11, 6, 3},
		"a second place of 0":                  {3, 2, 7, 3, 0, 10, 5, 1, 8, 4, 1, 11, 6, 0},
		"a second place that is the next one":  {3, 2, 7, 3, 0, 10, 5, 1, 8, 4, 1, 11, 6, 3},
		"a second order that may not be":       {3, 2, 7, 3, 0, 10, 5, 1, 8, 4, 1, 11, 0, 2},
		"a second side that is none":           {3, 2, 7, 3, 0, 10, 5, 1, 8, 4, 2, 11, 6, 2},
		"a first order that may not be":        {3, 2, 7, 16, 0, 10, 5, 1, 8, 4, 1, 11, 6, 2},
		"65 orders":                            rows(66, 65, 65),
		"64 orders, and the numbers of one":    rows(66, 64, 65),
		"65 orders, of which one lacks":        rows(66, 65, 64),
		"63 orders of 64":                      rows(66, 63, 64),
		"2^53 orders":                          {2, end, 7, 3, 0, 10, 5, 1},
		"an order less":                        {2, 0, 7, 3, 0, 10, 5, 1},
		"an order more":                        {2, 2, 7, 3, 0, 10, 5, 1},
		"an order that lacks a number":         {2, 1, 7, 3, 0, 10, 5},
		"an order that has a number more":      {2, 1, 7, 3, 0, 10, 5, 1, 0},
		"nothing, but a number behind":         {2, 0, 0},
		"64 orders, and a number behind":       append(rows(66, 64, 64), 0),
		"orders that wrap to none":             {2, 1 << 52, 7, 3, 0, 10},
		"a place beyond all numbers":           {end, 1, 7, 3, 0, 10, 5, beyond},
		"the greatest order, out by its owner": {end, 1, end, 16, 1, top, lot, end - 1},
	} {
		wantNoState(t, name, laid(l...))
	}
}

// 8.4: bytes that are not just numbers.
func TestOfRefusesBytes(t *testing.T) {
	s := laid(300, 2, 7, 3, 0, 10, 5, 200, 300, 15, 1, 11, 6, 201)
	of(t, s)
	for n := range len(s) {
		wantNoState(t, "the first "+strconv.Itoa(n)+" bytes", s[:n])
		// A number that is longer than it has to be.
		if c := s[n]; c < 128 {
			wantNoState(t, "long form at "+strconv.Itoa(n), s[:n]+string([]byte{c | 128, 0})+s[n+1:])
		}
	}
	for name, more := range map[string]string{
		"a byte":        "\x00",
		"six bytes":     "\x00\x00\x00\x00\x00\x00",
		"an order":      laid(9, 3, 0, 10, 5, 202),
		"itself":        s,
		"very many":     strings.Repeat("\x00", 1<<20),
		"a long number": strings.Repeat("\xff", 9),
	} {
		wantNoState(t, name+" behind", s+more)
		wantNoState(t, name+" ahead", more+s)
	}
	wantNoState(t, "half a number behind", s+"\x80")
	wantNoState(t, "digits", "2 1 7 3 0 10 5 1")
	wantNoState(t, "half a number behind 64", laid(rows(65, 64, 64)...)+"\x80")
}

// 8.4: each byte put otherwise is refused, or is another book of just those bytes.
func TestOfTakesNoOtherBytes(t *testing.T) {
	taken := 0
	for _, s := range []string{
		laid(1, 0),
		laid(2, 1, 7, 3, 0, 10, 5, 1),
		laid(300, 2, 7, 3, 0, 10, 5, 200, 300, 15, 1, 11, 6, 201),
	} {
		for i := range len(s) {
			for c := range 256 {
				x := s[:i] + string([]byte{byte(c)}) + s[i+1:]
				b, e := call.Of(x)
				if e == api.OK && b.Bytes() == x {
					taken++
				} else if b != nil || e != api.ErrState {
					t.Fatalf("Of(%q) = %v, %d", x, b, e)
				}
			}
		}
	}
	if taken < 500 {
		t.Errorf("only %d were taken", taken)
	}
}

// bookMayBe tells by the words of the chapter whether numbers are a book of two orders.
func bookMayBe(l []int) bool {
	if l[0] < 1 || l[1] != 2 || l[2] == l[8] || l[7] < 1 || l[7] >= l[13] || l[13] >= l[0] {
		return false
	}
	for _, x := range [][]int{l[2:8], l[8:14]} {
		if x[1] > 15 || x[2] > 1 || x[3] > top || x[4] < 1 || x[4] > lot {
			return false
		}
	}
	return true
}

// 8.4: all books of two orders whose numbers are small, or at an edge.
func TestOfSmallNumbers(t *testing.T) {
	taken, refused := 0, 0
	for n := range 4 * 2 * 4 * 4 * 2 * 2 * 3 * 3 * 2 * 2 * 3 * 3 {
		digit := func(of ...int) int {
			d := of[n%len(of)]
			n /= len(of)
			return d
		}
		next, count, places := digit(0, 1, 2, 3), digit(2, 1), [2]int{digit(0, 1, 2, 3), digit(0, 1, 2, 3)}
		id, owners := digit(7, 8), [2]int{digit(15, 16), 15}
		sides, prices := [2]int{digit(0, 1, 2), digit(0, 1, 2)}, [2]int{digit(top, top+1), digit(top, top+1)}
		amounts := [2]int{digit(0, 1, lot), digit(1, lot, lot+1)}
		l := []int{next, count, 7, owners[0], sides[0], prices[0], amounts[0], places[0], id, owners[1], sides[1], prices[1], amounts[1], places[1]}
		b, e := call.Of(laid(l...))
		if may := bookMayBe(l); may != (e == api.OK) || may != (b != nil) || !may && e != api.ErrState {
			t.Fatalf("Of(%v) = %v, %d, want %v", l, b, e, may)
		}
		if b == nil {
			refused++
			continue
		}
		taken++
		if s := b.Bytes(); s != laid(l...) {
			t.Fatalf("%v and back: %q", l, s)
		}
	}
	if taken < 10 || refused < 1000 {
		t.Errorf("%d were taken, %d refused", taken, refused)
	}
}
