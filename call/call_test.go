package call_test

import (
	"math"
	"testing"

	"gavel/api"
	"gavel/call"
)

// 8.1
func TestNew(t *testing.T) {
	b := call.New()
	wantOrders(t, b)
	wantClear(t, b, 0, 0)
	if s := b.Bytes(); s != "\x01\x00" {
		t.Errorf("its bytes are %q", s)
	}
	put(t, b, buy(7, 1, 10, 5))
	wantOrders(t, b, at(1, buy(7, 1, 10, 5)))
	wantOrders(t, call.New())
}

// 8.1: places go up by one, whatever the price, the side and the Id, and are not given anew.
func TestPut(t *testing.T) {
	b := bookOf(t, buy(9, 1, 10, 5), sell(2, 15, 300, 4), buy(5, 1, 0, 1))
	wantOrders(t, b, at(1, buy(9, 1, 10, 5)), at(2, sell(2, 15, 300, 4)), at(3, buy(5, 1, 0, 1)))
	wantCancel(t, b, "the last", 5, 1, api.OK)
	put(t, b, sell(6, 0, 12, 1))
	wantOrders(t, b, at(1, buy(9, 1, 10, 5)), at(2, sell(2, 15, 300, 4)), at(4, sell(6, 0, 12, 1)))
}

// edges are the least and the greatest of what an order may have, and what is beyond them.
func edges() []struct {
	name string
	set  func(*api.Order, int)
	may  []int
	not  []int
} {
	return []struct {
		name string
		set  func(*api.Order, int)
		may  []int
		not  []int
	}{
		{"Id", func(o *api.Order, n int) { o.Id = n }, []int{0, 1, end - 1, end}, []int{-1, end + 1, math.MinInt, math.MaxInt}},
		{"Owner", func(o *api.Order, n int) { o.Owner = n }, []int{0, 1, 14, 15}, []int{-1, 16, 17, 255, math.MinInt, math.MaxInt}},
		{"Price", func(o *api.Order, n int) { o.Price = n }, []int{0, 1, top - 1, top}, []int{-1, top + 1, end, math.MinInt, math.MaxInt}},
		{"Amount", func(o *api.Order, n int) { o.Amount = n }, []int{1, 2, lot - 1, lot}, []int{0, -1, lot + 1, top, math.MinInt, math.MaxInt}},
	}
}

// 8.1
func TestPutAtTheEdges(t *testing.T) {
	for _, x := range edges() {
		for _, good := range []api.Order{buy(7, 3, 10, 5), sell(7, 3, 10, 5)} {
			for _, n := range x.may {
				o := good
				x.set(&o, n)
				wantOrders(t, bookOf(t, o), at(1, o))
			}
			b := bookOf(t, buy(1, 1, 1, 1))
			for _, n := range x.not {
				o := good
				x.set(&o, n)
				wantPut(t, b, x.name, o, api.ErrArg)
			}
		}
	}
	wantOrders(t, bookOf(t, sell(end, 15, top, lot)), at(1, sell(end, 15, top, lot)))
	wantOrders(t, bookOf(t, buy(0, 0, 0, 1)), at(1, buy(0, 0, 0, 1)))
	wantPut(t, call.New(), "nothing", api.Order{}, api.ErrArg)
}

// 8.1: the book gives places, and takes none.
func TestPutWithAPlace(t *testing.T) {
	b := bookOf(t, buy(1, 1, 1, 1))
	for _, place := range []int{1, 2, 3, -1, end, math.MinInt, math.MaxInt} {
		wantPut(t, b, "a place", at(place, buy(7, 3, 10, 5)), api.ErrArg)
	}
	put(t, b, buy(7, 3, 10, 5))
	o, _ := b.Get(7)
	wantCancel(t, b, "to put it again", 7, 3, api.OK)
	wantPut(t, b, "as it was got", o, api.ErrArg)
}

// 8.1: whose it is and what it is like make no other one of it.
func TestPutOfAnIdThatIsThere(t *testing.T) {
	b := bookOf(t, buy(7, 3, 10, 5), sell(8, 3, 20, 5))
	for _, o := range []api.Order{buy(7, 3, 10, 5), sell(7, 3, 10, 5), buy(7, 4, 10, 5), buy(7, 3, 11, 4), sell(8, 0, 0, 1), buy(8, 15, top, lot)} {
		wantPut(t, b, "there", o, api.ErrThere)
	}
	wantCancel(t, b, "once", 7, 3, api.OK)
	put(t, b, sell(7, 4, 30, 1))
	wantOrders(t, b, at(2, sell(8, 3, 20, 5)), at(3, sell(7, 4, 30, 1)))
}

// 8.1: 64 orders stand, and not one more until one is gone.
func TestPutIntoAFullBook(t *testing.T) {
	b := full(t)
	if n := len(b.Orders()); n != 64 {
		t.Fatalf("there are %d", n)
	}
	wantPut(t, b, "the 65th", buy(7, 3, 10, 5), api.ErrFull)
	wantPut(t, b, "the 65th", sell(0, 0, 0, 1), api.ErrFull)
	wantCancel(t, b, "one of 64", 130, 30%16, api.OK)
	put(t, b, buy(7, 3, 10, 5))
	if o, ok := b.Get(7); !ok || o != at(65, buy(7, 3, 10, 5)) {
		t.Errorf("the one that found room is %+v, %v", o, ok)
	}
	wantPut(t, b, "the 65th again", buy(8, 3, 10, 5), api.ErrFull)
}

// 8.1: the last place is 2^53 - 1.
func TestPutOutOfPlaces(t *testing.T) {
	b := of(t, laid(end-1, 0))
	put(t, b, buy(7, 3, 10, 5))
	wantOrders(t, b, at(end-1, buy(7, 3, 10, 5)))
	wantPut(t, b, "behind the last place", sell(8, 3, 20, 5), api.ErrFull)
	wantCancel(t, b, "the last", 7, 3, api.OK)
	wantPut(t, b, "though none is there", buy(7, 3, 10, 5), api.ErrFull)
	if s := b.Bytes(); s != laid(end, 0) {
		t.Errorf("its bytes are %q", s)
	}
}

// 8.1: ErrArg is told ahead of ErrThere, and that ahead of ErrFull.
func TestPutTellsTheFirstError(t *testing.T) {
	for name, b := range map[string]*call.Book{
		"64 orders":      full(t),
		"out of places":  of(t, laid(end, 1, 100, 0, 0, 5, 1, 1)),
		"one order":      bookOf(t, buy(100, 0, 5, 1)),
		"the last place": of(t, laid(end-1, 1, 100, 0, 1, 5, 1, end-2)),
	} {
		wantPut(t, b, name+", a wrong owner", buy(100, 16, 5, 1), api.ErrArg)
		wantPut(t, b, name+", a wrong price", buy(100, 0, -1, 1), api.ErrArg)
		wantPut(t, b, name+", a wrong amount", buy(100, 0, 5, 0), api.ErrArg)
		wantPut(t, b, name+", a wrong id", buy(-1, 0, 5, 1), api.ErrArg)
		wantPut(t, b, name+", a place", at(1, buy(100, 0, 5, 1)), api.ErrArg)
		wantPut(t, b, name+", there", buy(100, 0, 5, 1), api.ErrThere)
	}
}

// 8.2: which orders can be amended, and by whom.
func TestAmendRefuses(t *testing.T) {
	b := bookOf(t, buy(7, 3, 10, 5), sell(8, 4, 20, 6))
	for _, id := range []int{0, 6, 9, -1, end, end + 1, math.MinInt, math.MaxInt} {
		wantAmend(t, b, "no such order", id, 3, 10, 5, api.ErrNone)
		wantAmend(t, b, "no such order, no such owner", id, 16, 10, 5, api.ErrNone)
		wantAmend(t, b, "no such order, a wrong price and amount", id, 3, -1, 0, api.ErrNone)
	}
	for _, owner := range []int{0, 2, 4, 15, 16, -1, math.MinInt, math.MaxInt} {
		wantAmend(t, b, "another one's", 7, owner, 10, 5, api.ErrOwner)
		wantAmend(t, b, "another one's, a wrong price", 7, owner, -1, 5, api.ErrOwner)
		wantAmend(t, b, "another one's, a wrong amount", 7, owner, 10, 0, api.ErrOwner)
	}
	wantAmend(t, b, "another one's, as they stand otherwise", 8, 3, 20, 6, api.ErrOwner)
	for _, n := range []int{-1, top + 1, end, math.MinInt, math.MaxInt} {
		wantAmend(t, b, "a wrong price", 7, 3, n, 5, api.ErrArg)
		wantAmend(t, b, "a wrong price", 8, 4, n, 1, api.ErrArg)
	}
	for _, n := range []int{0, -1, lot + 1, top, math.MinInt, math.MaxInt} {
		wantAmend(t, b, "a wrong amount", 7, 3, 10, n, api.ErrArg)
		wantAmend(t, b, "a wrong amount, another price", 8, 4, 21, n, api.ErrArg)
	}
}

// 8.2: what is amended, where it stands then, and that the next place goes on just where it moves.
func TestAmend(t *testing.T) {
	for _, side := range []bool{true, false} {
		for _, x := range []struct {
			name                 string
			price, amount, place int
		}{
			{"the same", 10, 5, 2},
			{"one less", 10, 4, 2},
			{"the least", 10, 1, 2},
			{"one more", 10, 6, 4},
			{"the most", 10, lot, 4},
			{"a price one higher", 11, 5, 4},
			{"a price one lower", 9, 5, 4},
			{"a higher price and less", 11, 1, 4},
			{"a lower price and less", 9, 4, 4},
			{"a higher price and more", 11, 6, 4},
			{"the least price", 0, 5, 4},
			{"the greatest price", top, 5, 4},
		} {
			b := bookOf(t, sell(1, 0, 30, 1))
			put(t, b, api.Order{Id: 7, Owner: 3, Price: 10, Amount: 5, Buys: side}, sell(8, 3, 10, 5))
			wantAmend(t, b, x.name, 7, 3, x.price, x.amount, api.OK)
			first, last := at(1, sell(1, 0, 30, 1)), at(3, sell(8, 3, 10, 5))
			o := api.Order{Id: 7, Owner: 3, Price: x.price, Amount: x.amount, Place: x.place, Buys: side}
			if x.place == 2 {
				wantOrders(t, b, first, o, last)
			} else {
				wantOrders(t, b, first, last, o)
			}
			put(t, b, sell(9, 0, 30, 1))
			if next, _ := b.Get(9); next.Place != max(4, x.place+1) {
				t.Errorf("%s: the next one stands at %d", x.name, next.Place)
			}
		}
	}
}

// 8.2: one that is the last takes a place as others do, and one that moved is held against what it is now.
func TestAmendAgain(t *testing.T) {
	b := bookOf(t, buy(7, 3, 10, 5))
	for i, x := range []struct{ price, amount, place int }{
		{11, 5, 2}, {11, 5, 2}, {10, 5, 3}, {10, 3, 3}, {10, 4, 4}, {10, 5, 5}, {10, 5, 5}, {11, 1, 6}, {10, 1, 7},
	} {
		if e := b.Amend(7, 3, x.price, x.amount); e != api.OK {
			t.Fatal(i, e)
		}
		wantOrders(t, b, at(x.place, buy(7, 3, x.price, x.amount)))
	}
}

// 8.2: no order is added by amending one: in a full book it goes, too.
func TestAmendInAFullBook(t *testing.T) {
	b := full(t)
	l := b.Orders()
	wantAmend(t, b, "one of 64", 130, 30%16, 6, 31, api.OK)
	o := l[30]
	o.Price, o.Place = 6, 65
	wantOrders(t, b, append(append(append([]api.Order{}, l[:30]...), l[31:]...), o)...)
}

// 8.2: without need of a place it goes also when there is none.
func TestAmendOutOfPlaces(t *testing.T) {
	b := of(t, laid(end-1, 2, 7, 3, 0, 10, 5, 1, 8, 3, 1, 20, 5, 2))
	wantAmend(t, b, "to the last place", 7, 3, 10, 6, api.OK)
	wantOrders(t, b, at(2, sell(8, 3, 20, 5)), at(end-1, buy(7, 3, 10, 6)))
	for _, x := range [][2]int{{10, 7}, {11, 6}, {9, 1}, {10, lot}, {top, lot}} {
		wantAmend(t, b, "out of places", 7, 3, x[0], x[1], api.ErrFull)
	}
	wantAmend(t, b, "no such order", 9, 3, 11, 6, api.ErrNone)
	wantAmend(t, b, "another one's", 7, 4, 11, 6, api.ErrOwner)
	wantAmend(t, b, "a wrong price", 7, 3, top+1, 6, api.ErrArg)
	wantAmend(t, b, "a wrong amount", 7, 3, 11, 0, api.ErrArg)
	wantAmend(t, b, "an amount that is more and wrong", 7, 3, 10, lot+1, api.ErrArg)
	wantAmend(t, b, "the same", 7, 3, 10, 6, api.OK)
	wantAmend(t, b, "less", 8, 3, 20, 1, api.OK)
	wantOrders(t, b, at(2, sell(8, 3, 20, 1)), at(end-1, buy(7, 3, 10, 6)))
}

// 8.2
func TestCancel(t *testing.T) {
	b := bookOf(t, buy(7, 3, 10, 5), sell(8, 4, 20, 6), buy(9, 3, 1, 1))
	for _, id := range []int{0, 6, 10, -1, end, math.MinInt, math.MaxInt} {
		wantCancel(t, b, "no such order", id, 3, api.ErrNone)
		wantCancel(t, b, "no such order, no such owner", id, 16, api.ErrNone)
	}
	for _, owner := range []int{0, 2, 4, 16, -1, math.MinInt, math.MaxInt} {
		wantCancel(t, b, "another one's", 7, owner, api.ErrOwner)
	}
	wantCancel(t, b, "another one's", 8, 3, api.ErrOwner)
	wantCancel(t, b, "in the middle", 8, 4, api.OK)
	wantOrders(t, b, at(1, buy(7, 3, 10, 5)), at(3, buy(9, 3, 1, 1)))
	wantCancel(t, b, "gone", 8, 4, api.ErrNone)
	wantAmend(t, b, "gone", 8, 4, 20, 6, api.ErrNone)
	put(t, b, buy(8, 5, 2, 2))
	wantCancel(t, b, "put again by another one", 8, 4, api.ErrOwner)
	wantCancel(t, b, "the first", 7, 3, api.OK)
	wantOrders(t, b, at(3, buy(9, 3, 1, 1)), at(4, buy(8, 5, 2, 2)))
	wantCancel(t, b, "put again", 8, 5, api.OK)
	wantCancel(t, b, "the only one", 9, 3, api.OK)
	wantOrders(t, b)
	put(t, b, buy(7, 3, 10, 5))
	wantOrders(t, b, at(5, buy(7, 3, 10, 5)))
}

// 8.2
func TestGet(t *testing.T) {
	b := bookOf(t, buy(0, 0, 0, 1), sell(end, 15, top, lot))
	if o, ok := b.Get(0); !ok || o != at(1, buy(0, 0, 0, 1)) {
		t.Errorf("Get(0) = %+v, %v", o, ok)
	}
	if o, ok := b.Get(end); !ok || o != at(2, sell(end, 15, top, lot)) {
		t.Errorf("Get(2^53) = %+v, %v", o, ok)
	}
	for _, id := range []int{1, 2, -1, end - 1, end + 1, math.MinInt, math.MaxInt} {
		if o, ok := b.Get(id); ok || o != (api.Order{}) {
			t.Errorf("Get(%d) = %+v, %v", id, o, ok)
		}
	}
}

// 8.2: by their places, not by their Ids, nor as they were put.
func TestOrdersBehindAmendments(t *testing.T) {
	b := bookOf(t, buy(3, 0, 10, 5), sell(1, 1, 20, 5), buy(2, 2, 10, 5), sell(4, 3, 20, 5))
	wantAmend(t, b, "moved", 3, 0, 11, 5, api.OK)
	wantAmend(t, b, "left", 2, 2, 10, 1, api.OK)
	wantAmend(t, b, "moved", 1, 1, 20, 6, api.OK)
	wantAmend(t, b, "moved again", 3, 0, 10, 5, api.OK)
	wantOrders(t, b, at(3, buy(2, 2, 10, 1)), at(4, sell(4, 3, 20, 5)), at(6, sell(1, 1, 20, 6)), at(7, buy(3, 0, 10, 5)))
}

// 8.2: what becomes of a list that was told is nothing to the book.
func TestToldIsNotKept(t *testing.T) {
	b := bookOf(t, buy(3, 0, 10, 5), sell(1, 1, 20, 5))
	first, second := b.Orders(), b.Orders()
	first[0].Amount, first[1] = 99, api.Order{}
	_ = append(first[:1], sell(9, 9, 9, 9))
	wantOrders(t, b, at(1, buy(3, 0, 10, 5)), at(2, sell(1, 1, 20, 5)))
	if second[0].Amount != 5 || second[1].Id != 1 {
		t.Errorf("another list is changed to %+v", second)
	}
	wantCancel(t, b, "the first", 3, 0, api.OK)
	put(t, b, buy(5, 0, 10, 5))
	if second[0].Id != 3 || second[1].Id != 1 || len(second) != 2 {
		t.Errorf("the book changed a list that it told to %+v", second)
	}
	// What is appended to a list must not stand in the book's memory.
	l := b.Orders()
	_ = append(l, buy(8, 8, 8, 8))
	put(t, b, buy(6, 0, 10, 5))
	wantOrders(t, b, at(2, sell(1, 1, 20, 5)), at(3, buy(5, 0, 10, 5)), at(4, buy(6, 0, 10, 5)))
}

// 8.6: a zero Book, which no call made either, is answered as nil is.
func TestNoBook(t *testing.T) {
	for name, b := range map[string]*call.Book{"nil": nil, "zero": {}} {
		for range 2 {
			for _, o := range []api.Order{buy(7, 3, 10, 5), {}, at(1, sell(1, 1, 1, 1))} {
				if e := b.Put(o); e != api.ErrArg {
					t.Errorf("%s: Put = %d", name, e)
				}
			}
			for _, id := range ids() {
				if e := b.Amend(id, 3, 10, 5); e != api.ErrArg {
					t.Errorf("%s: Amend = %d", name, e)
				}
				if e := b.Cancel(id, 3); e != api.ErrArg {
					t.Errorf("%s: Cancel = %d", name, e)
				}
				if o, ok := b.Get(id); ok || o != (api.Order{}) {
					t.Errorf("%s: Get = %+v, %v", name, o, ok)
				}
			}
			if l := b.Orders(); len(l) != 0 {
				t.Errorf("%s: Orders = %v", name, l)
			}
			if s := b.Bytes(); s != "" {
				t.Errorf("%s: Bytes = %q", name, s)
			}
			wantClear(t, b, 0, 0)
		}
	}
}
