package call_test

import (
	"math"
	"slices"
	"testing"

	"gavel/api"
	"gavel/call"
)

// 8.3
func TestCross(t *testing.T) {
	for _, x := range []struct {
		name          string
		l             []api.Order
		price, amount int
	}{
		{"nothing", nil, 0, 0},
		{"one buys", []api.Order{buy(1, 0, 10, 5)}, 0, 0},
		{"one sells", []api.Order{sell(1, 0, 10, 5)}, 0, 0},
		{"one sells for nothing", []api.Order{sell(1, 0, 0, 5)}, 0, 0},
		{"all buy", []api.Order{buy(1, 0, 10, 5), buy(2, 1, 20, 5), buy(3, 1, 0, 1)}, 0, 0},
		{"all sell", []api.Order{sell(1, 0, 10, 5), sell(2, 1, 20, 5), sell(3, 1, 0, 1)}, 0, 0},
		{"one tick apart", []api.Order{buy(1, 0, 10, 5), sell(2, 1, 11, 5)}, 0, 0},
		{"the same price", []api.Order{buy(1, 0, 10, 5), sell(2, 1, 10, 3)}, 10, 3},
		{"one tick over", []api.Order{buy(1, 0, 10, 3), sell(2, 1, 9, 5)}, 9, 3},
		{"the example", []api.Order{buy(1, 0, 10, 5), sell(2, 0, 8, 3)}, 8, 3},
		{"of one owner", []api.Order{buy(1, 2, 10, 5), sell(2, 2, 8, 3)}, 8, 3},
		{"at 0", []api.Order{buy(1, 0, 0, 5), sell(2, 1, 0, 3)}, 0, 3},
		{"for nothing", []api.Order{buy(1, 0, 10, 5), sell(2, 1, 0, 3)}, 0, 3},
		{"at the greatest price", []api.Order{buy(1, 0, top, lot), sell(2, 1, top, lot)}, top, lot},
		{"from end to end", []api.Order{buy(1, 0, top, lot), sell(2, 1, 0, lot)}, 0, lot},
		{"as much at 8, 9 and 10", []api.Order{buy(1, 0, 10, 5), buy(2, 1, 9, 5), sell(3, 2, 8, 5)}, 8, 5},
		{"most at 9 and 10", []api.Order{buy(1, 0, 10, 6), sell(2, 1, 8, 3), sell(3, 2, 9, 4), sell(4, 2, 10, 9)}, 9, 6},
		{"most in between", []api.Order{buy(1, 0, 10, 2), buy(2, 0, 8, 3), sell(3, 1, 9, 2), sell(4, 1, 7, 4)}, 7, 4},
		{"most at a buyer's price", []api.Order{buy(1, 0, 10, 4), buy(2, 0, 5, 9), sell(3, 1, 5, 1), sell(4, 1, 9, 5)}, 9, 4},
		{"most at the lowest of all", []api.Order{buy(1, 0, 5, 9), buy(2, 0, 10, 1), sell(3, 1, 4, 8), sell(4, 1, 9, 9)}, 4, 8},
		{"two of the same Id", []api.Order{buy(1, 0, 10, 2), buy(1, 0, 10, 2), sell(1, 0, 10, 5)}, 10, 4},
		{"places make no odds", []api.Order{at(9, buy(1, 0, 10, 5)), at(-3, sell(2, 1, 8, 3)), at(end+1, sell(3, 1, 9, 1))}, 9, 4},
	} {
		wantCross(t, x.name, x.l, x.price, x.amount)
		slices.Reverse(x.l)
		wantCross(t, x.name+", reversed", x.l, x.price, x.amount)
	}
}

// 8.3: orders that may not be are passed over, by Cross and by Fills; at the edge they count.
func TestOrdersThatMayNotBe(t *testing.T) {
	book := []api.Order{buy(1, 0, 10, 5), sell(2, 1, 8, 3)}
	fills := []api.Fill{{Id: 1, Amount: 3}, {Id: 2, Owner: 1, Amount: 3}}
	for _, x := range edges() {
		for _, n := range x.not {
			for _, o := range []api.Order{buy(3, 2, 20, 9), sell(3, 2, 1, 9)} {
				x.set(&o, n)
				for i := range 3 {
					l := slices.Insert(slices.Clone(book), i, o)
					wantCross(t, x.name, l, 8, 3)
					wantFills(t, x.name, l, 8, 3, fills...)
				}
				wantCross(t, x.name+" alone", []api.Order{o, o}, 0, 0)
				wantFills(t, x.name+" alone", []api.Order{o, o}, 8, 9)
			}
		}
		for _, n := range x.may {
			o := sell(3, 2, 7, 9)
			x.set(&o, n)
			if x.name == "Price" {
				o.Buys = true
			}
			f := call.Fills([]api.Order{o}, o.Price, lot)
			if !slices.Equal(f, []api.Fill{{Id: o.Id, Owner: o.Owner, Amount: o.Amount}}) {
				t.Errorf("%s %d: %v", x.name, n, f)
			}
		}
	}
	bad := buy(1, 16, 10, 5)
	wantCross(t, "one of the two may not be", []api.Order{bad, sell(2, 1, 8, 3)}, 0, 0)
}

// 8.3: of 64 orders all count, of one more none, though some of them may not be.
func TestTooManyOrders(t *testing.T) {
	wantCross(t, "64", many(64), 5, 32)
	if f := call.Fills(many(64), 5, 99); len(f) != 64 {
		t.Errorf("Fills of 64 are %v", f)
	}
	wantCross(t, "65", many(65), 0, 0)
	wantFills(t, "65", many(65), 5, 99)
	wantCross(t, "1000", many(1000), 0, 0)
	wantFills(t, "1000", many(1000), 5, 99)
	l := many(65)
	l[64].Amount = 0
	wantCross(t, "65, of which one may not be", l, 0, 0)
	wantFills(t, "65, of which one may not be", l, 5, 99)
	l = many(64)
	l[63].Amount = 0
	wantCross(t, "64, of which one may not be", l, 5, 31)
	big := make([]api.Order, 0, 64)
	for i := range 64 {
		big = append(big, api.Order{Id: end, Owner: 15, Price: top, Amount: lot, Buys: i < 32})
	}
	wantCross(t, "64 of the greatest", big, top, 32*lot)
}

// fills are those of the owner 0: an Id and an amount each.
func fills(numbers ...int) []api.Fill {
	var l []api.Fill
	for i := 0; i < len(numbers); i += 2 {
		l = append(l, api.Fill{Id: numbers[i], Amount: numbers[i+1]})
	}
	return l
}

// 8.3: better ones first, buys ahead of sells.
func TestFillsByPrice(t *testing.T) {
	l := []api.Order{
		at(1, sell(1, 0, 8, 3)), at(2, buy(2, 0, 10, 2)), at(3, sell(3, 0, 6, 3)), at(4, buy(4, 0, 12, 2)),
		at(5, sell(5, 0, 7, 3)), at(6, buy(6, 0, 11, 2)), at(7, buy(7, 0, 9, 2)), at(8, sell(8, 0, 9, 3)),
	}
	for _, x := range []struct {
		price, amount int
		want          []api.Fill
	}{
		{9, 8, fills(4, 2, 6, 2, 2, 2, 7, 2, 3, 3, 5, 3, 1, 2)},
		{9, 1, fills(4, 1, 3, 1)},
		{9, 2, fills(4, 2, 3, 2)},
		{9, 3, fills(4, 2, 6, 1, 3, 3)},
		{9, 4, fills(4, 2, 6, 2, 3, 3, 5, 1)},
		{9, 12, fills(4, 2, 6, 2, 2, 2, 7, 2, 3, 3, 5, 3, 1, 3, 8, 3)},
		{9, 99, fills(4, 2, 6, 2, 2, 2, 7, 2, 3, 3, 5, 3, 1, 3, 8, 3)},
		{9, math.MaxInt, fills(4, 2, 6, 2, 2, 2, 7, 2, 3, 3, 5, 3, 1, 3, 8, 3)},
		{10, 99, fills(4, 2, 6, 2, 2, 2, 3, 3, 5, 3, 1, 3, 8, 3)},
		{8, 99, fills(4, 2, 6, 2, 2, 2, 7, 2, 3, 3, 5, 3, 1, 3)},
		{7, 5, fills(4, 2, 6, 2, 2, 1, 3, 3, 5, 2)},
		{12, 99, fills(4, 2, 3, 3, 5, 3, 1, 3, 8, 3)},
		{13, 4, fills(3, 3, 5, 1)},
		{math.MaxInt, 4, fills(3, 3, 5, 1)},
		{6, 99, fills(4, 2, 6, 2, 2, 2, 7, 2, 3, 3)},
		{5, 3, fills(4, 2, 6, 1)},
		{0, 3, fills(4, 2, 6, 1)},
		{-1, 3, fills(4, 2, 6, 1)},
		{math.MinInt, 3, fills(4, 2, 6, 1)},
		{9, 0, nil},
		{9, -1, nil},
		{9, math.MinInt, nil},
		{math.MinInt, math.MinInt, nil},
		{math.MaxInt, math.MinInt, nil},
	} {
		wantFills(t, "by price", l, x.price, x.amount, x.want...)
	}
	wantFills(t, "nothing", nil, 9, 9)
	wantFills(t, "nothing", []api.Order{}, 9, 9)
}

// 8.3: of one price the lower place; of one price and place as they stand. A place may be any number here.
func TestFillsByPlace(t *testing.T) {
	for _, buys := range []bool{true, false} {
		order := func(id, place, amount int) api.Order {
			return api.Order{Id: id, Price: 5, Amount: amount, Place: place, Buys: buys}
		}
		l := []api.Order{order(1, 4, 1), order(2, 3, 2), order(3, 4, 3), order(4, 2, 4), order(5, 3, 5), order(6, 0, 6), order(7, -7, 7)}
		wantFills(t, "by place", l, 5, 99, fills(7, 7, 6, 6, 4, 4, 2, 2, 5, 5, 1, 1, 3, 3)...)
		wantFills(t, "by place", l, 5, 20, fills(7, 7, 6, 6, 4, 4, 2, 2, 5, 1)...)
		l = []api.Order{order(1, math.MaxInt, 1), order(2, math.MinInt, 2), order(3, 0, 3), order(4, math.MaxInt, 4), order(5, math.MinInt, 5)}
		wantFills(t, "by places as far as may be", l, 5, 99, fills(2, 2, 5, 5, 3, 3, 1, 1, 4, 4)...)
		// A better price goes ahead of a lower place.
		better := order(9, 99, 1)
		if better.Price--; buys {
			better.Price += 2
		}
		wantFills(t, "a better price", []api.Order{order(1, 1, 1), better}, 5, 1, fills(9, 1)...)
		var same []api.Order
		var want []api.Fill
		for i := range 64 {
			same = append(same, order(63-i, 7, 1+i))
			want = append(want, api.Fill{Id: 63 - i, Amount: 1 + i})
		}
		wantFills(t, "all the same", same, 5, lot, want...)
	}
}

// 8.3: a fill tells whose it is, and orders of one Id are filled each for itself.
func TestFillsOfOwners(t *testing.T) {
	l := []api.Order{at(1, buy(7, 15, 10, 5)), at(2, sell(7, 3, 8, 3)), at(3, buy(7, 15, 10, 4)), at(4, sell(end, 0, 8, 4))}
	wantFills(t, "owners", l, 8, 7, api.Fill{Id: 7, Owner: 15, Amount: 5}, api.Fill{Id: 7, Owner: 15, Amount: 2}, api.Fill{Id: 7, Owner: 3, Amount: 3}, api.Fill{Id: end, Amount: 4})
}

// 8.3, R3: what is handed in is not changed, nor what lies behind its end.
func TestArgumentsStay(t *testing.T) {
	memory := many(64)
	for i := range memory {
		memory[i].Price, memory[i].Place = i*7%11, i*5%13
	}
	memory[3].Amount = 0
	before := slices.Clone(memory)
	for _, n := range []int{0, 1, 30, 64} {
		call.Cross(memory[:n])
		f := call.Fills(memory[:n], 5, 20)
		_ = append(f, fills(1, 1, 2, 2, 3, 3)...)
		if !slices.Equal(memory, before) {
			t.Fatalf("%d orders are changed to %v", n, memory)
		}
	}
	first, second := call.Fills(memory, 5, 20), call.Fills(memory, 5, 20)
	first[0].Amount = 99
	if slices.Equal(first, second) {
		t.Error("two answers share their memory")
	}
}

// 8.3, the example.
func TestClearTheExample(t *testing.T) {
	b := bookOf(t, buy(1, 0, 10, 5), sell(2, 0, 8, 3))
	wantClear(t, b, 8, 3, fills(1, 3, 2, 3)...)
	wantOrders(t, b, at(1, buy(1, 0, 10, 2)))
}

// 8.3: orders that are filled whole are gone, others have less and keep their places, as does the next place.
func TestClear(t *testing.T) {
	b := bookOf(t, sell(1, 1, 8, 3), buy(2, 2, 10, 2), sell(3, 3, 30, 3), buy(4, 4, 12, 3), sell(5, 5, 9, 4), buy(6, 6, 10, 4), buy(7, 7, 3, 1))
	wantAmend(t, b, "behind the others of its price", 2, 2, 10, 3, api.OK)
	// At 8: 3 of 10; at 9: 7 of 10, as at 10; at 12: 3.
	wantClear(t, b, 9, 7, api.Fill{Id: 4, Owner: 4, Amount: 3}, api.Fill{Id: 6, Owner: 6, Amount: 4}, api.Fill{Id: 1, Owner: 1, Amount: 3}, api.Fill{Id: 5, Owner: 5, Amount: 4})
	wantOrders(t, b, at(3, sell(3, 3, 30, 3)), at(7, buy(7, 7, 3, 1)), at(8, buy(2, 2, 10, 3)))
	wantClear(t, b, 0, 0)
	put(t, b, sell(1, 0, 3, 2))
	wantOrders(t, b, at(3, sell(3, 3, 30, 3)), at(7, buy(7, 7, 3, 1)), at(8, buy(2, 2, 10, 3)), at(9, sell(1, 0, 3, 2)))
	wantClear(t, b, 3, 2, api.Fill{Id: 2, Owner: 2, Amount: 2}, api.Fill{Id: 1, Amount: 2})
	wantOrders(t, b, at(3, sell(3, 3, 30, 3)), at(7, buy(7, 7, 3, 1)), at(8, buy(2, 2, 10, 1)))
	wantCancel(t, b, "one that was filled whole", 4, 4, api.ErrNone)
	wantAmend(t, b, "what is left, to as much as it was", 2, 2, 10, 3, api.OK)
	wantOrders(t, b, at(3, sell(3, 3, 30, 3)), at(7, buy(7, 7, 3, 1)), at(10, buy(2, 2, 10, 3)))
}

// 8.3: one order that gets a part stays at its place ahead of others.
func TestClearOfAPart(t *testing.T) {
	b := bookOf(t, buy(1, 1, 10, 5), buy(2, 2, 10, 5), sell(3, 3, 10, 7))
	wantClear(t, b, 10, 7, api.Fill{Id: 1, Owner: 1, Amount: 5}, api.Fill{Id: 2, Owner: 2, Amount: 2}, api.Fill{Id: 3, Owner: 3, Amount: 7})
	wantOrders(t, b, at(2, buy(2, 2, 10, 3)))
	put(t, b, buy(4, 4, 10, 1), sell(5, 5, 9, 1))
	wantClear(t, b, 9, 1, api.Fill{Id: 2, Owner: 2, Amount: 1}, api.Fill{Id: 5, Owner: 5, Amount: 1})
	wantOrders(t, b, at(2, buy(2, 2, 10, 2)), at(4, buy(4, 4, 10, 1)))
}

// 8.3: a book in which nothing can be traded stays as it is.
func TestClearOfNothing(t *testing.T) {
	for _, l := range [][]api.Order{
		nil,
		{buy(1, 0, 10, 5)},
		{sell(1, 0, 0, 5), sell(2, 1, 10, 5)},
		{sell(1, 0, 11, 5), buy(2, 1, 10, 5), buy(3, 1, 0, 5), sell(4, 1, top, lot)},
	} {
		b := bookOf(t, l...)
		before := tell(b)
		wantClear(t, b, 0, 0)
		wantOrders(t, b, before.orders...)
		if s := b.Bytes(); s != before.bytes {
			t.Errorf("%q, want %q", s, before.bytes)
		}
	}
}

// 8.3: a full book has room for as many as were filled whole, and what was told is not kept.
func TestClearOfAFullBook(t *testing.T) {
	b := full(t)
	price, amount, f := b.Clear()
	// Sells are 1 more each than the buy ahead: 32 buys of 1, 3 .. 63 are 1024, all filled.
	if price != 5 || amount != 1024 || len(f) != 64 {
		t.Fatalf("Clear() = %d, %d, %v", price, amount, f)
	}
	l := b.Orders()
	if len(l) != 1 || l[0] != (api.Order{Id: 163, Owner: 15, Price: 5, Amount: 32, Place: 64}) {
		t.Fatalf("left are %+v", l)
	}
	clear(f)
	wantOrders(t, b, l...)
	for id := range 63 {
		put(t, b, buy(id, 0, 1, 1))
	}
	wantPut(t, b, "the 65th", buy(99, 0, 1, 1), api.ErrFull)
}
