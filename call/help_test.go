package call_test

import (
	"math"
	"reflect"
	"slices"
	"testing"

	"gavel/api"
	"gavel/call"
)

const (
	lot = 1 << 20 // the greatest amount
	top = 1 << 40 // the greatest price
	end = 1 << 53 // the greatest Id, and the place at which a book is out of them
)

func buy(id, owner, price, amount int) api.Order {
	return api.Order{Id: id, Owner: owner, Price: price, Amount: amount, Buys: true}
}

func sell(id, owner, price, amount int) api.Order {
	return api.Order{Id: id, Owner: owner, Price: price, Amount: amount}
}

// at is an order at a place.
func at(place int, o api.Order) api.Order {
	o.Place = place
	return o
}

func put(t *testing.T, b *call.Book, l ...api.Order) {
	t.Helper()
	for _, o := range l {
		if e := b.Put(o); e != api.OK {
			t.Fatalf("Put(%+v) = %d", o, e)
		}
	}
}

func bookOf(t *testing.T, l ...api.Order) *call.Book {
	t.Helper()
	b := call.New()
	put(t, b, l...)
	return b
}

// full is a book of 64 orders, of the Ids 100 to 163.
func full(t *testing.T) *call.Book {
	t.Helper()
	b := call.New()
	for i := range 64 {
		put(t, b, api.Order{Id: 100 + i, Owner: i % 16, Price: 5, Amount: 1 + i, Buys: i%2 == 0})
	}
	return b
}

func of(t *testing.T, s string) *call.Book {
	t.Helper()
	b, e := call.Of(s)
	if b == nil || e != api.OK {
		t.Fatalf("Of(%.60q) = %v, %d", s, b, e)
	}
	return b
}

// ids are the Ids of which told asks: edges, and those of the orders of these tests.
func ids() []int {
	l := []int{math.MinInt, -1, end - 1, end, end + 1, math.MaxInt}
	for id := range 200 {
		l = append(l, id)
	}
	return l
}

// told is all that a book tells.
type told struct {
	orders []api.Order
	got    map[int]api.Order
	bytes  string
}

func tell(b *call.Book) told {
	// No orders and an empty list of them are the same.
	x := told{orders: append([]api.Order{}, b.Orders()...), got: map[int]api.Order{}, bytes: b.Bytes()}
	for _, id := range ids() {
		if o, ok := b.Get(id); ok {
			x.got[id] = o
		}
	}
	return x
}

// wantStep: a step answers that error, and one that is refused changes nothing that the book tells.
func wantStep(t *testing.T, b *call.Book, what string, do func() api.Errno, want api.Errno) {
	t.Helper()
	before := tell(b)
	if e := do(); e != want {
		t.Errorf("%s = %d, want %d", what, e, want)
	}
	if now := tell(b); want != api.OK && !reflect.DeepEqual(now, before) {
		t.Errorf("%s was refused and changed\n%v\nto\n%v", what, before, now)
	}
}

func wantPut(t *testing.T, b *call.Book, what string, o api.Order, e api.Errno) {
	t.Helper()
	wantStep(t, b, what+": Put", func() api.Errno { return b.Put(o) }, e)
}

func wantAmend(t *testing.T, b *call.Book, what string, id, owner, price, amount int, e api.Errno) {
	t.Helper()
	wantStep(t, b, what+": Amend", func() api.Errno { return b.Amend(id, owner, price, amount) }, e)
}

func wantCancel(t *testing.T, b *call.Book, what string, id, owner int, e api.Errno) {
	t.Helper()
	wantStep(t, b, what+": Cancel", func() api.Errno { return b.Cancel(id, owner) }, e)
}

// wantOrders: these stand, each is got by its Id, and nothing else is.
func wantOrders(t *testing.T, b *call.Book, l ...api.Order) {
	t.Helper()
	x := tell(b)
	if !slices.Equal(x.orders, l) {
		t.Fatalf("orders\n%+v, want\n%+v", x.orders, l)
	}
	for _, o := range l {
		if got, ok := b.Get(o.Id); !ok || got != o {
			t.Errorf("Get(%d) = %+v, %v, want %+v", o.Id, got, ok, o)
		}
		delete(x.got, o.Id)
	}
	if len(x.got) != 0 {
		t.Errorf("there are also %v", x.got)
	}
}

func wantCross(t *testing.T, what string, l []api.Order, price, amount int) {
	t.Helper()
	if p, n := call.Cross(l); p != price || n != amount {
		t.Errorf("%s: Cross = %d, %d, want %d, %d", what, p, n, price, amount)
	}
}

func wantFills(t *testing.T, what string, l []api.Order, price, amount int, want ...api.Fill) {
	t.Helper()
	if got := call.Fills(l, price, amount); !slices.Equal(got, want) {
		t.Errorf("%s: Fills at %d of %d = %v, want %v", what, price, amount, got, want)
	}
}

func wantClear(t *testing.T, b *call.Book, price, amount int, want ...api.Fill) {
	t.Helper()
	if p, n, f := b.Clear(); p != price || n != amount || !slices.Equal(f, want) {
		t.Errorf("Clear() = %d, %d, %v, want %d, %d, %v", p, n, f, price, amount, want)
	}
}

// chance is a row of numbers that looks like chance and is always the same.
func chance(seed uint32) func(n int) int {
	return func(n int) int {
		seed = seed*1664525 + 1013904223
		return int(seed>>8) % n
	}
}

// laid is numbers to the base 128, the lowest digit first.
func laid(numbers ...int) string {
	var out []byte
	for _, n := range numbers {
		for ; n > 127; n /= 128 {
			out = append(out, byte(n%128+128))
		}
		out = append(out, byte(n))
	}
	return string(out)
}

// many are n orders that may be, all alike but for their Ids, and places from 1 on.
func many(n int) []api.Order {
	var l []api.Order
	for i := range n {
		l = append(l, at(1+i, api.Order{Id: i, Price: 5, Amount: 1, Buys: i%2 == 0}))
	}
	return l
}
