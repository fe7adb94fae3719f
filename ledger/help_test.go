package ledger_test

import (
	"math"
	"reflect"
	"strings"
	"testing"

	"gavel/api"
	"gavel/ledger"
)

// most is the greatest amount, and the most that there may be of anything in all.
const most = 1 << 40

// noAmounts are numbers that are no amount.
var noAmounts = []int{0, -1, -most, most + 1, 1 << 53, math.MinInt, math.MaxInt}

// beside are numbers of which none is one of the first n.
func beside(n int) []int {
	return []int{-1, n, n + 1, 16, 17, math.MinInt, math.MaxInt}
}

func newLedger(t *testing.T, clients, goods int) *ledger.Ledger {
	t.Helper()
	x, e := ledger.New(clients, goods)
	if x == nil || e != api.OK {
		t.Fatalf("New(%d, %d) = %v, %d", clients, goods, x, e)
	}
	return x
}

// told is all that a ledger tells.
type told struct {
	accounts []api.Account
	there    []bool
	stamps   []int
	replies  []string
	cash     int
	goods    [4]int
	records  []api.Record
}

func tell(x *ledger.Ledger) told {
	var s told
	for who := -1; who <= 17; who++ {
		a, ok := x.Account(who)
		stamp, reply := x.Last(who)
		s.accounts = append(s.accounts, a)
		s.there = append(s.there, ok)
		s.stamps = append(s.stamps, stamp)
		s.replies = append(s.replies, reply)
	}
	s.cash, s.goods = x.Totals()
	s.records = x.Records()
	return s
}

// call is one of those that change accounts, with what it is given.
type call struct {
	name             string
	who, to, good, n int
	goods, two       bool // it takes a good; it takes two clients
	do               func(x *ledger.Ledger) api.Errno
}

// callsOf are all calls that take an amount, of these clients, that good and that amount.
func callsOf(who, to, good, n int) []call {
	l := []call{
		{name: "Pay", do: func(x *ledger.Ledger) api.Errno { return x.Pay(who, n) }},
		{name: "Take", do: func(x *ledger.Ledger) api.Errno { return x.Take(who, n) }},
		{name: "Hold", do: func(x *ledger.Ledger) api.Errno { return x.Hold(who, n) }},
		{name: "Free", do: func(x *ledger.Ledger) api.Errno { return x.Free(who, n) }},
		{name: "Move", two: true, do: func(x *ledger.Ledger) api.Errno { return x.Move(who, to, n) }},
		{name: "Store", goods: true, do: func(x *ledger.Ledger) api.Errno { return x.Store(who, good, n) }},
		{name: "Fetch", goods: true, do: func(x *ledger.Ledger) api.Errno { return x.Fetch(who, good, n) }},
		{name: "Lock", goods: true, do: func(x *ledger.Ledger) api.Errno { return x.Lock(who, good, n) }},
		{name: "Unlock", goods: true, do: func(x *ledger.Ledger) api.Errno { return x.Unlock(who, good, n) }},
		{name: "Hand", goods: true, two: true, do: func(x *ledger.Ledger) api.Errno { return x.Hand(who, to, good, n) }},
	}
	for i := range l {
		l[i].who, l[i].to, l[i].good, l[i].n = who, to, good, n
	}
	return l
}

// refused: the call answers that error, and nothing that the ledger tells is changed.
func (c call) refused(t *testing.T, x *ledger.Ledger, want api.Errno) {
	t.Helper()
	before := tell(x)
	if e := c.do(x); e != want {
		t.Errorf("%s of %d, %d, %d, %d: %d, want %d", c.name, c.who, c.to, c.good, c.n, e, want)
	}
	if now := tell(x); !reflect.DeepEqual(now, before) {
		t.Errorf("%s of %d, %d, %d, %d was refused and changed\n%v\nto\n%v", c.name, c.who, c.to, c.good, c.n, before, now)
	}
}

// each: these calls go well, one by one.
func each(t *testing.T, l ...api.Errno) {
	t.Helper()
	for i, e := range l {
		if e != api.OK {
			t.Fatalf("call %d: %d", i, e)
		}
	}
}

// rich is a ledger of three clients and two goods with something of everything.
func rich(t *testing.T) *ledger.Ledger {
	t.Helper()
	x := newLedger(t, 3, 2)
	for who := range 3 {
		each(t, x.Pay(who, 100+who), x.Hold(who, 40+who), x.Mark(who, 7+who, strings.Repeat("r", who)))
		for good := range 2 {
			each(t, x.Store(who, good, 10+who+20*good), x.Lock(who, good, 5+who+10*good))
		}
	}
	return x
}

func wantAccount(t *testing.T, x *ledger.Ledger, who int, want api.Account) {
	t.Helper()
	if a, ok := x.Account(who); a != want || !ok {
		t.Errorf("account %d = %v, %v, want %v", who, a, ok, want)
	}
}

func wantTotals(t *testing.T, x *ledger.Ledger, cash int, goods [4]int) {
	t.Helper()
	if c, g := x.Totals(); c != cash || g != goods {
		t.Errorf("totals are %d, %v, want %d, %v", c, g, cash, goods)
	}
}

func wantLast(t *testing.T, x *ledger.Ledger, who, stamp int, reply string) {
	t.Helper()
	if s, r := x.Last(who); s != stamp || r != reply {
		t.Errorf("the last of %d is %d, %.20q, want %d, %.20q", who, s, r, stamp, reply)
	}
}

// laid is numbers to the base 128, the lowest digit first.
func laid(numbers ...int) string {
	var out []byte
	for _, n := range numbers {
		for ; n > 127; n /= 128 {
			out = append(out, byte(n%128+128))
		}
		out = append(out, byte(n))
	}
	return string(out)
}
