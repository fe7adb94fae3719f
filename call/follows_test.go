package call_test

import (
	"slices"
	"testing"

	"gavel/api"
	"gavel/call"
)

// tradedAt is how much is traded at a price, by the words of the chapter.
func tradedAt(l []api.Order, price int) int {
	bought, sold := 0, 0
	for _, o := range l {
		if o.Buys && o.Price >= price {
			bought += o.Amount
		}
		if !o.Buys && o.Price <= price {
			sold += o.Amount
		}
	}
	return min(bought, sold)
}

// better tells which one of two orders of a side is filled first; neither, if price and place are the same.
func better(a, b api.Order) bool {
	if a.Price == b.Price {
		return a.Place < b.Place
	}
	return a.Buys == (a.Price > b.Price)
}

// fillsBy hands out piece by piece: each goes to the best order that has any left, the first of several.
func fillsBy(l []api.Order, price, amount int) []api.Fill {
	var out []api.Fill
	for _, buys := range []bool{true, false} {
		left := slices.Clone(l)
		var side []api.Fill
		for range amount {
			best := -1
			for i, o := range left {
				within := o.Price == price || buys == (o.Price > price)
				if o.Buys == buys && within && o.Amount > 0 && (best < 0 || better(o, left[best])) {
					best = i
				}
			}
			if best < 0 {
				break
			}
			if o := left[best]; o.Amount == l[best].Amount {
				side = append(side, api.Fill{Id: o.Id, Owner: o.Owner})
			}
			side[len(side)-1].Amount++
			left[best].Amount--
		}
		out = append(out, side...)
	}
	return out
}

// wantCrossed: at no price more is traded, at each lower one less. All prices of l are at most most.
func wantCrossed(t *testing.T, l []api.Order, most int) {
	t.Helper()
	price, amount := call.Cross(l)
	if n := tradedAt(l, price); amount > 0 && n != amount || amount == 0 && price != 0 {
		t.Fatalf("Cross = %d, %d, where %d are traded in %+v", price, amount, n, l)
	}
	for p := -1; p <= most+1; p++ {
		if n := tradedAt(l, p); n > amount || amount > 0 && p < price && n == amount {
			t.Fatalf("Cross = %d, %d, though at %d %d are traded in %+v", price, amount, p, n, l)
		}
	}
	if amount > 0 && !slices.ContainsFunc(l, func(o api.Order) bool { return o.Price == price }) {
		t.Fatalf("Cross = %d, which is no order's price in %+v", price, l)
	}
}

// mixed is a list in another order.
func mixed(l []api.Order, dice func(int) int) []api.Order {
	l = slices.Clone(l)
	for i := range l {
		j := dice(i + 1)
		l[i], l[j] = l[j], l[i]
	}
	return l
}

// someOrders are orders that may be, of prices up to most, some of them at one place.
func someOrders(dice func(int) int, most int) []api.Order {
	var l []api.Order
	for id := range dice(65) {
		l = append(l, api.Order{Id: id, Owner: dice(16), Price: dice(most + 1), Amount: 1 + dice(9), Place: dice(12), Buys: dice(2) == 0})
	}
	return l
}

// 8.3, 8.5: many lists of orders, at the price that Cross tells and at others.
func TestManyLists(t *testing.T) {
	dice := chance(3)
	none, some := 0, 0
	for range 1500 {
		most := 1 + dice(30)
		l := someOrders(dice, most)
		wantCrossed(t, l, most)
		price, amount := call.Cross(l)
		if amount == 0 {
			none++
		} else {
			some++
		}
		wantCross(t, "in another order", mixed(l, dice), price, amount)
		wantFills(t, "at Cross", l, price, amount, fillsBy(l, price, amount)...)
		p, n := dice(most+2), dice(100)
		wantFills(t, "at some price", l, p, n, fillsBy(l, p, n)...)
	}
	if none < 20 || some < 1000 {
		t.Errorf("of the lists %d could not trade, %d could", none, some)
	}
}

// 8.5: all lists of up to four orders of small prices and amounts.
func TestSmallLists(t *testing.T) {
	const most, amounts = 2, 2
	kinds := 2 * (most + 1) * amounts
	for count, lists := 0, 1; count <= 4; count, lists = count+1, lists*kinds {
		for n := range lists {
			var l []api.Order
			for id := range count {
				k := n % kinds
				n /= kinds
				l = append(l, api.Order{Id: id, Price: k / 2 % (most + 1), Amount: 1 + k/2/(most+1), Place: 1 + id, Buys: k%2 == 0})
			}
			wantCrossed(t, l, most)
			b := call.New()
			for _, o := range l {
				put(t, b, at(0, o))
			}
			wantCleared(t, b)
		}
	}
}

// wantCleared clears a book, and asks for all that the chapter promises of a clearing.
func wantCleared(t *testing.T, b *call.Book) {
	t.Helper()
	before := b.Orders()
	wantPrice, wantAmount := call.Cross(before)
	price, amount, f := b.Clear()
	if price != wantPrice || amount != wantAmount || !slices.Equal(f, fillsBy(before, price, amount)) {
		t.Fatalf("Clear() = %d, %d, %v of %+v", price, amount, f, before)
	}
	got := map[int]int{}
	for _, x := range f {
		if got[x.Id] != 0 || x.Amount < 1 {
			t.Fatalf("%+v is among %v", x, f)
		}
		got[x.Id] = x.Amount
	}
	bought, sold := 0, 0
	var left []api.Order
	for _, o := range before {
		n := got[o.Id]
		if o.Buys {
			bought += n
		} else {
			sold += n
		}
		if n > 0 && o.Price != price && o.Buys != (o.Price > price) {
			t.Fatalf("%+v trades at %d", o, price)
		}
		for _, x := range before {
			if n > 0 && x.Buys == o.Buys && better(x, o) && got[x.Id] < x.Amount {
				t.Fatalf("%+v is filled, though %+v has something left", o, x)
			}
		}
		if o.Amount -= n; o.Amount > 0 {
			left = append(left, o)
		}
	}
	if bought != amount || sold != amount {
		t.Fatalf("of %d %d are bought and %d sold", amount, bought, sold)
	}
	if now := b.Orders(); !slices.Equal(now, left) {
		t.Fatalf("left are\n%+v, want\n%+v", now, left)
	}
	wantNothingToTrade(t, b)
}

func wantNothingToTrade(t *testing.T, b *call.Book) {
	t.Helper()
	bytes := b.Bytes()
	for _, o := range b.Orders() {
		for _, x := range b.Orders() {
			if o.Buys && !x.Buys && o.Price >= x.Price {
				t.Fatalf("behind a clearing %+v and %+v can be traded", o, x)
			}
		}
	}
	wantCross(t, "behind a clearing", b.Orders(), 0, 0)
	wantClear(t, b, 0, 0)
	if s := b.Bytes(); s != bytes {
		t.Fatalf("a second clearing made %q of %q", s, bytes)
	}
}

// model is a book by the words of the chapter: orders by their Ids, which know their places.
type model struct {
	next   int
	orders map[int]api.Order
}

func (m *model) list() []api.Order {
	var l []api.Order
	for _, o := range m.orders {
		l = append(l, o)
	}
	slices.SortFunc(l, func(a, b api.Order) int { return a.Place - b.Place })
	return l
}

func (m *model) put(o api.Order) api.Errno {
	_, there := m.orders[o.Id]
	switch {
	case o.Id < 0 || o.Owner < 0 || o.Owner > 15 || o.Price < 0 || o.Price > top || o.Amount < 1 || o.Amount > lot || o.Place != 0:
		return api.ErrArg
	case there:
		return api.ErrThere
	case len(m.orders) == 64 || m.next == end:
		return api.ErrFull
	}
	o.Place = m.next
	m.next++
	m.orders[o.Id] = o
	return api.OK
}

func (m *model) amend(id, owner, price, amount int) api.Errno {
	o, there := m.orders[id]
	stays := price == o.Price && amount <= o.Amount
	switch {
	case !there:
		return api.ErrNone
	case o.Owner != owner:
		return api.ErrOwner
	case price < 0 || price > top || amount < 1 || amount > lot:
		return api.ErrArg
	case !stays && m.next == end:
		return api.ErrFull
	}
	if !stays {
		o.Place = m.next
		m.next++
	}
	o.Price, o.Amount = price, amount
	m.orders[id] = o
	return api.OK
}

func (m *model) cancel(id, owner int) api.Errno {
	o, there := m.orders[id]
	switch {
	case !there:
		return api.ErrNone
	case o.Owner != owner:
		return api.ErrOwner
	}
	delete(m.orders, id)
	return api.OK
}

// clear takes what was filled out of the model.
func (m *model) clear(l []api.Fill) {
	for _, f := range l {
		o := m.orders[f.Id]
		if o.Amount -= f.Amount; o.Amount == 0 {
			delete(m.orders, f.Id)
		} else {
			m.orders[f.Id] = o
		}
	}
}

// bytes lays the model.
func (m *model) bytes() string {
	l := []int{m.next, len(m.orders)}
	for _, o := range m.list() {
		side := 1
		if o.Buys {
			side = 0
		}
		l = append(l, o.Id, o.Owner, side, o.Price, o.Amount, o.Place)
	}
	return laid(l...)
}

// step does one call to both, and tells what both answered.
func (m *model) step(b *call.Book, dice func(int) int) (got, want api.Errno) {
	id, owner, price, amount := dice(90), dice(3), dice(22)-1, dice(12)
	if o, ok := b.Get(id); ok && dice(2) == 0 {
		owner, price = o.Owner, o.Price
	}
	switch dice(8) {
	case 0:
		return b.Cancel(id, owner), m.cancel(id, owner)
	case 1, 2, 3:
		return b.Amend(id, owner, price, amount), m.amend(id, owner, price, amount)
	}
	o := api.Order{Id: id, Owner: owner, Price: price, Amount: amount, Buys: dice(2) == 0, Place: dice(20) / 19}
	return b.Put(o), m.put(o)
}

// 8.1 to 8.5: many books, each call of them against the model, some of them read anew in between.
func TestManyBooks(t *testing.T) {
	dice := chance(11)
	answers, clearings := map[api.Errno]int{}, 0
	for range 150 {
		next := 1
		if dice(4) == 0 {
			next = end - dice(150)
		}
		b, m := of(t, laid(next, 0)), &model{next: next, orders: map[int]api.Order{}}
		for range 6 {
			for range dice(150) {
				got, want := m.step(b, dice)
				if got != want {
					t.Fatalf("answered %d, want %d in %+v", got, want, m)
				}
				answers[got]++
				if s := b.Bytes(); s != m.bytes() {
					t.Fatalf("%q, want %q", s, m.bytes())
				}
			}
			wantOrders(t, b, m.list()...)
			b = thereAndBack(t, b)
			l := b.Orders()
			price, amount := call.Cross(l)
			m.clear(call.Fills(l, price, amount))
			wantCleared(t, b)
			if s := b.Bytes(); s != m.bytes() {
				t.Fatalf("behind a clearing %q, want %q", s, m.bytes())
			}
			clearings += min(amount, 1)
		}
	}
	// Done, and refused in each way that a call can be.
	if len(answers) != 6 || clearings < 500 {
		t.Errorf("not all was tried: %v, %d", answers, clearings)
	}
}

// 8.5: books do not know each other.
func TestTwoBooks(t *testing.T) {
	a, b := bookOf(t, buy(1, 0, 10, 5), sell(2, 1, 8, 3)), bookOf(t, buy(1, 0, 10, 5), sell(2, 1, 8, 3))
	wantAmend(t, a, "one of two", 1, 0, 9, 9, api.OK)
	a.Clear()
	wantOrders(t, b, at(1, buy(1, 0, 10, 5)), at(2, sell(2, 1, 8, 3)))
}
