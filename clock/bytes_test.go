package clock_test

import (
	"reflect"
	"strconv"
	"strings"
	"testing"

	"gavel/api"
	"gavel/clock"
)

func of(t *testing.T, s string) *clock.Auction {
	t.Helper()
	a, e := clock.Of(s)
	if a == nil || e != api.OK {
		t.Fatalf("Of(%q) = %v, %d", s, a, e)
	}
	return a
}

func wantNoState(t *testing.T, what, s string) {
	t.Helper()
	if a, e := clock.Of(s); a != nil || e != api.ErrState {
		t.Errorf("%s: Of(%.60q) = %v, %d", what, s, a, e)
	}
}

// thereAndBack is the auction of an auction's bytes, which tells the same.
func thereAndBack(t *testing.T, a *clock.Auction) *clock.Auction {
	t.Helper()
	b := of(t, a.Bytes())
	if x, y := tell(a), tell(b); !reflect.DeepEqual(x, y) {
		t.Fatalf("there and back\n%v\nis\n%v", x, y)
	}
	return b
}

// 7.6
func TestBytes(t *testing.T) {
	a := newAuction(t, 5, 10, 2, 2)
	for _, x := range []struct {
		do   func()
		want string
	}{
		{func() {}, "\x05\x0a\x02\x01\x00\x02\x00\x00\x00\x00"},
		{func() { bid(t, a, 300, 3) }, "\x05\x0a\x02\x01\x00\x02\x00\xac\x02\x00\x03"},
		{func() { bid(t, a, 4) }, "\x05\x0a\x02\x01\x00\x02\x00\x04\x00\x03"},
		{func() { next(t, a, clock.Open) }, "\x05\x0a\x02\x02\x00\x02\x04\x04\x03\x03"},
		{func() { bid(t, a, 1) }, "\x05\x0a\x02\x02\x00\x02\x04\x01\x03\x03"},
		{func() { next(t, a, clock.Sold) }, "\x05\x0a\x02\x02\x01\x02\x04\x01\x03\x03"},
	} {
		x.do()
		if s := a.Bytes(); s != x.want {
			t.Errorf("%q, want %q", s, x.want)
		}
		thereAndBack(t, a)
	}
	void := newAuction(t, lot-1, top, top, 1)
	bid(t, void, lot)
	next(t, void, clock.Void)
	if s := void.Bytes(); s != "\xff\xff\x3f\x80\x80\x80\x80\x80\x20\x80\x80\x80\x80\x80\x20\x01\x02\x01\x00\x80\x80\x40" {
		t.Errorf("of a void one %q", s)
	}
	thereAndBack(t, void)
}

// 7.6: an auction that was read goes on as the one that was laid.
func TestOfGoesOn(t *testing.T) {
	a := of(t, laid(5, 10, 2, 2, 0, 2, 4, 1, 3, 3))
	wantTells(t, a, tells{2, 12, 10, 4, 5, clock.Open})
	wantWants(t, a, 0, 4, 1)
	wantWants(t, a, 1, 3, 3)
	wantNoSale(t, a, api.ErrNone)
	wantBid(t, a, 0, 5, api.ErrRise)
	wantBid(t, a, 2, 0, api.ErrArg)
	bid(t, a, 4)
	next(t, a, clock.Open)
	wantTells(t, a, tells{3, 14, 12, 7, 5, clock.Open})
	bid(t, a, 2, 0)
	next(t, a, clock.Sold)
	wantSale(t, a, 12, 4, 1) // gaps 2 and 3, of 3 left: 1, 1 and 1
	sold := of(t, laid(5, 10, 2, 2, 1, 2, 4, 1, 3, 3))
	wantSale(t, sold, 10, 2, 3)
	wantClosed(t, sold)
	void := of(t, laid(5, top-1, 2, 1, 2, 2, 0, 4, 0, 2))
	wantSale(t, void, 0, 0, 0)
	wantClosed(t, void)
}

// sixteen is the head of an auction of sixteen bidders, and what each wanted and wants.
func sixteen(was, now int, numbers ...int) []int {
	l := append(numbers, 16)
	for range 16 {
		l = append(l, was, now)
	}
	return l
}

// 7.6: the edges of what an auction may be.
func TestOfAtTheEdges(t *testing.T) {
	for name, l := range map[string][]int{
		"the least":                         {1, 0, 1, 1, 0, 1, 0, 0},
		"the least, sold":                   {1, 0, 1, 1, 1, 1, 0, 0},
		"the greatest":                      sixteen(0, lot, lot, top, top, 1, 0),
		"the greatest, void":                sixteen(0, lot, lot, top, top, 1, 2),
		"the greatest in a later round":     sixteen(lot, lot, lot, 0, top, 2, 2),
		"the greatest round":                {1, 0, 1, top + 1, 0, 1, 2, 2},
		"the greatest round, void":          {1, 0, 1, top + 1, 2, 1, 2, 2},
		"the greatest round, sold":          {1, 0, 1, top + 1, 1, 1, 2, 1},
		"a last round at 2^40":              {1, 4, 4, top / 4, 2, 1, 2, 2},
		"a last round below it":             {1, 3, 4, top / 4, 2, 1, 2, 2},
		"the last but one is open":          {1, 4, 4, top/4 - 1, 0, 1, 2, 2},
		"a demand of 2^20":                  {1, 5, 1, 1, 0, 1, 0, lot},
		"one more was wanted than there is": {5, 10, 2, 2, 0, 2, 6, 0, 0, 0},
		"one more of two":                   {5, 10, 2, 2, 0, 2, 3, 3, 3, 3},
		"as much as ahead":                  {5, 10, 2, 2, 0, 2, 4, 4, 3, 3},
		"nothing any more":                  {5, 10, 2, 2, 0, 2, 4, 0, 3, 0},
		"sold with all":                     {5, 10, 2, 2, 1, 2, 4, 2, 3, 3},
		"sold with nothing":                 {5, 10, 2, 2, 1, 2, 4, 0, 3, 0},
		"sold at once with all":             {5, 10, 2, 1, 1, 2, 0, 2, 0, 3},
		"void by one":                       {5, top, 1, 1, 2, 2, 0, 3, 0, 3},
		"void in a later round by one":      {5, top - 1, 1, 2, 2, 2, 4, 3, 3, 3},
		"open, though nobody wants more":    {5, 10, 2, 1, 0, 2, 0, 2, 0, 3},
		"open, though it will be void":      {5, top, 2, 1, 0, 2, 0, 9, 0, 3},
	} {
		a, e := clock.Of(laid(l...))
		if a == nil || e != api.OK {
			t.Errorf("%s: %v, %d", name, a, e)
			continue
		}
		wantTells(t, a, tells{l[3], l[1] + (l[3]-1)*l[2], a.Last(), a.Demand(), l[0], l[4]})
		for who := range l[5] {
			wantWants(t, a, who, l[6+2*who], l[7+2*who])
		}
		if s := a.Bytes(); s != laid(l...) {
			t.Errorf("%s: and back %q", name, s)
		}
		thereAndBack(t, a)
	}
}

// refuseAll: none of these rows of numbers is an auction.
func refuseAll(t *testing.T, rows map[string][]int) {
	t.Helper()
	for name, l := range rows {
		wantNoState(t, name, laid(l...))
	}
}

// 7.6: supplies, starts, steps, bidders and rounds that are no auction's.
func TestOfRefusesHeads(t *testing.T) {
	refuseAll(t, map[string][]int{
		"a supply of 0":                          {0, 10, 2, 1, 0, 2, 0, 4, 0, 3},
		"a supply of 0, sold":                    {0, 10, 2, 1, 1, 2, 0, 0, 0, 0},
		"a supply above 2^20":                    {lot + 1, 10, 2, 1, 0, 2, 0, 4, 0, 3},
		"a start above 2^40":                     {5, top + 1, 2, 1, 0, 2, 0, 4, 0, 3},
		"a step of 0":                            {5, 10, 0, 1, 0, 2, 0, 4, 0, 3},
		"a step above 2^40":                      {5, 10, top + 1, 1, 0, 2, 0, 4, 0, 3},
		"no bidders":                             {5, 10, 2, 1, 0, 0},
		"no bidders, but one":                    {5, 10, 2, 1, 0, 0, 0, 4},
		"17 bidders":                             append([]int{5, 10, 2, 1, 0, 17}, make([]int, 34)...),
		"2^20 bidders":                           {5, 10, 2, 1, 0, lot, 0, 4},
		"2^53 bidders":                           {5, 10, 2, 1, 0, 1 << 53, 0, 4},
		"a round of 0":                           {5, 10, 2, 0, 0, 2, 0, 4, 0, 3},
		"a later round of 0":                     {5, 10, 2, 0, 0, 2, 4, 4, 3, 3},
		"a round one beyond 2^40":                {1, 0, 1, top + 2, 0, 1, 2, 2},
		"a round a step beyond it":               {1, 4, 4, top/4 + 1, 0, 1, 2, 2},
		"a round whose price is just above it":   {1, 1, top, 2, 0, 1, 2, 2},
		"a round whose price would wrap to 10":   {5, 10, 1 << 40, 1<<24 + 1, 0, 2, 4, 4, 3, 3},
		"a round whose price would wrap below 0": {5, 10, 1 << 40, 1<<23 + 1, 0, 2, 4, 4, 3, 3},
		"a round of 2^53":                        {5, 0, 1, 1 << 53, 0, 2, 4, 4, 3, 3},
	})
}

// 7.6: demands that no auction has in its round.
func TestOfRefusesDemands(t *testing.T) {
	refuseAll(t, map[string][]int{
		"a demand above 2^20":                 {5, 10, 2, 1, 0, 2, 0, lot + 1, 0, 3},
		"the last above 2^20":                 {5, 10, 2, 1, 0, 2, 0, 4, 0, lot + 1},
		"a demand ahead above 2^20":           {5, 10, 2, 2, 0, 2, lot + 1, 4, 3, 3},
		"the last ahead above 2^20":           {5, 10, 2, 2, 0, 2, 4, 4, lot + 1, 3},
		"both of 2^53":                        {5, 10, 2, 2, 0, 2, 1 << 53, 1 << 53, 3, 3},
		"wanted ahead of the first round":     {5, 10, 2, 1, 0, 2, 4, 4, 3, 3},
		"one piece ahead of it":               {5, 10, 2, 1, 0, 2, 0, 4, 1, 3},
		"ahead of it, and sold":               {5, 10, 2, 1, 1, 2, 4, 1, 3, 3},
		"ahead of it above the supply":        {5, 10, 2, 1, 0, 2, 9, 4, 0, 3},
		"more wanted than ahead":              {5, 10, 2, 2, 0, 2, 4, 5, 3, 3},
		"the last wants more":                 {5, 10, 2, 2, 0, 2, 4, 4, 3, 4},
		"the last wants more, the first less": {5, 10, 2, 2, 0, 2, 4, 0, 3, 4},
		"a newcomer":                          {5, 10, 2, 2, 0, 2, 9, 4, 0, 1},
		"as much wanted ahead as there is":    {7, 10, 2, 2, 0, 2, 4, 4, 3, 3},
		"less wanted ahead than there is":     {8, 10, 2, 2, 0, 2, 4, 4, 3, 3},
		"nothing wanted ahead":                {5, 10, 2, 2, 0, 2, 0, 0, 0, 0},
		"as much ahead, and sold":             {7, 10, 2, 2, 1, 2, 4, 4, 3, 3},
	})
}

// 7.6: states that an auction can not be in.
func TestOfRefusesStates(t *testing.T) {
	refuseAll(t, map[string][]int{
		"sold with one too many":                   {5, 10, 2, 2, 1, 2, 4, 3, 3, 3},
		"sold at once with one too many":           {5, 10, 2, 1, 1, 2, 0, 3, 0, 3},
		"sold at the top with too many":            {5, top, 2, 1, 1, 2, 0, 3, 0, 3},
		"void with just as much":                   {5, top, 2, 1, 2, 2, 0, 2, 0, 3},
		"void with less":                           {5, top, 2, 1, 2, 2, 0, 1, 0, 3},
		"void in a later round with just as much":  {5, top - 2, 2, 2, 2, 2, 4, 2, 3, 3},
		"void, though the next price is 2^40":      {5, top - 2, 2, 1, 2, 2, 0, 4, 0, 3},
		"void in a later round, though it is 2^40": {5, top - 4, 2, 2, 2, 2, 4, 4, 3, 3},
		"void at a low price":                      {5, 10, 2, 1, 2, 2, 0, 4, 0, 3},
		"a state of 3":                             {5, 10, 2, 1, 3, 2, 0, 4, 0, 3},
		"a state of 3 where others may be":         {5, top, 2, 1, 3, 2, 0, 1, 0, 1},
		"a state of 2^53":                          {5, 10, 2, 1, 1 << 53, 2, 0, 4, 0, 3},
	})
}

// 7.6: numbers beyond all, too few and too many.
func TestOfRefusesNumbers(t *testing.T) {
	const beyond = 1<<53 + 1
	refuseAll(t, map[string][]int{
		"a supply beyond all numbers": {beyond, 10, 2, 1, 0, 2, 0, 4, 0, 3},
		"a round beyond all numbers":  {5, 10, 2, beyond, 0, 2, 4, 4, 3, 3},
		"bidders beyond all numbers":  {5, 10, 2, 1, 0, beyond, 0, 4, 0, 3},
		"a demand beyond all numbers": {5, 10, 2, 1, 0, 2, 0, 4, 0, beyond},
		"a bidder less":               {5, 10, 2, 1, 0, 3, 0, 4, 0, 3},
		"half a bidder less":          {5, 10, 2, 1, 0, 2, 0, 4, 0},
		"half a bidder more":          {5, 10, 2, 1, 0, 2, 0, 4, 0, 3, 0},
		"a bidder more":               {5, 10, 2, 1, 0, 2, 0, 4, 0, 3, 0, 0},
		"a bidder more than sixteen":  append(sixteen(0, 1, 5, 10, 2, 1, 0), 0, 0),
		"a number behind sixteen":     append(sixteen(0, 1, 5, 10, 2, 1, 0), 0),
	})
}

// 7.6: bytes that are not just numbers.
func TestOfRefusesBytes(t *testing.T) {
	s := laid(5, 10, 2, 2, 0, 2, 300, 1, 3, 3)
	of(t, s)
	for n := range len(s) {
		wantNoState(t, "the first "+strconv.Itoa(n)+" bytes", s[:n])
		// A number that is longer than it has to be.
		if c := s[n]; c < 128 {
			wantNoState(t, "long form at "+strconv.Itoa(n), s[:n]+string([]byte{c | 128, 0})+s[n+1:])
		}
	}
	for name, more := range map[string]string{
		"a byte":        "\x00",
		"two bytes":     "\x00\x00",
		"half a number": "\x80",
		"itself":        s,
		"very many":     strings.Repeat("\x00", 1<<20),
		"a long number": strings.Repeat("\xff", 9),
	} {
		wantNoState(t, name+" behind", s+more)
		wantNoState(t, name+" ahead", more+s)
	}
	wantNoState(t, "digits", "5 10 2 2 0 2 4 1 3 3")
	wantNoState(t, "a byte behind sixteen", laid(sixteen(0, 1, 5, 10, 2, 1, 0)...)+"\x00")
}

// 7.6: each byte put otherwise is refused, or is another auction of just those bytes.
func TestOfTakesNoOtherBytes(t *testing.T) {
	taken := 0
	for _, s := range []string{
		laid(5, 10, 2, 2, 0, 2, 300, 1, 3, 3),
		laid(5, 10, 2, 1, 1, 2, 0, 1, 0, 3),
		laid(5, top-1, 2, 1, 2, 1, 0, 200),
	} {
		for i := range len(s) {
			for c := range 256 {
				b := s[:i] + string([]byte{byte(c)}) + s[i+1:]
				a, e := clock.Of(b)
				if e == api.OK && a.Bytes() == b {
					taken++
				} else if a != nil || e != api.ErrState {
					t.Fatalf("Of(%q) = %v, %d", b, a, e)
				}
			}
		}
	}
	if taken < 500 {
		t.Errorf("only %d were taken", taken)
	}
}

// mayBe tells by the words of the chapter whether numbers are an auction.
func mayBe(l []int) bool {
	supply, start, step, round, state, bidders := l[0], l[1], l[2], l[3], l[4], l[5]
	if supply < 1 || start > top || step < 1 || bidders < 1 || len(l) != 6+2*bidders || round < 1 {
		return false
	}
	price := start + (round-1)*step
	ahead, wanted := 0, 0
	for i := 6; i < len(l); i += 2 {
		if round == 1 && l[i] != 0 || round > 1 && l[i+1] > l[i] {
			return false
		}
		ahead, wanted = ahead+l[i], wanted+l[i+1]
	}
	if price > top || round > 1 && ahead <= supply {
		return false
	}
	return state == 0 || state == 1 && wanted <= supply || state == 2 && wanted > supply && price+step > top
}

// 7.6: all small numbers, low and at the greatest price.
func TestOfSmallNumbers(t *testing.T) {
	taken, refused := 0, 0
	try := func(l []int) {
		a, e := clock.Of(laid(l...))
		if may := mayBe(l); may != (e == api.OK) || may != (a != nil) || !may && e != api.ErrState {
			t.Fatalf("Of(%v) = %v, %d, want %v", l, a, e, may)
		}
		if a == nil {
			refused++
			return
		}
		taken++
		if s := a.Bytes(); s != laid(l...) {
			t.Fatalf("%v and back: %q", l, s)
		}
	}
	for _, start := range []int{0, top - 2, top - 1, top, top + 1} {
		for n := range 4 * 3 * 4 * 4 * 81 {
			digit := func(base int) int {
				d := n % base
				n /= base
				return d
			}
			try([]int{digit(4), start, digit(3), digit(4), digit(4), 2, digit(3), digit(3), digit(3), digit(3)})
		}
	}
	if taken < 1000 || refused < 1000 {
		t.Errorf("%d were taken, %d refused", taken, refused)
	}
}
