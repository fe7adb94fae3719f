package call

import (
	"cmp"
	"slices"

	"gavel/api"
)

// Cross is the lowest price at which most is traded, and how much that is.
func Cross(l []api.Order) (price, amount int) {
	l = judged(l)
	for _, o := range l {
		// While nothing is traded the price stays 0, as none is below it.
		n := traded(l, o.Price)
		if n > amount || n == amount && o.Price < price {
			price, amount = o.Price, n
		}
	}
	return price, amount
}

// Fills are how much of each order is traded: buys, then sells, as they are filled.
func Fills(l []api.Order, price, amount int) []api.Fill {
	l = judged(l)
	buys := filled(l, buysAt(price), func(a, b api.Order) int { return cmp.Compare(b.Price, a.Price) }, amount)
	sells := filled(l, sellsAt(price), func(a, b api.Order) int { return cmp.Compare(a.Price, b.Price) }, amount)
	return append(buys, sells...)
}

// Clear trades as much as can be, at one price.
func (b *Book) Clear() (price, amount int, fills []api.Fill) {
	if !b.made() {
		return 0, 0, nil
	}
	price, amount = Cross(b.orders)
	fills = Fills(b.orders, price, amount)
	for _, f := range fills {
		b.orders[b.find(f.Id)].Amount -= f.Amount
	}
	b.orders = slices.DeleteFunc(b.orders, func(o api.Order) bool { return o.Amount == 0 })
	return price, amount, fills
}

// judged are the orders that count: those that may be, and none of too many.
func judged(l []api.Order) []api.Order {
	if len(l) > api.MaxOrders {
		return nil
	}
	return pick(l, mayBe)
}

// pick are the orders that are chosen, as they stand, in memory of their own.
func pick(l []api.Order, chosen func(api.Order) bool) []api.Order {
	var out []api.Order
	for _, o := range l {
		if chosen(o) {
			out = append(out, o)
		}
	}
	return out
}

func buysAt(price int) func(api.Order) bool {
	return func(o api.Order) bool { return o.Buys && o.Price >= price }
}

func sellsAt(price int) func(api.Order) bool {
	return func(o api.Order) bool { return !o.Buys && o.Price <= price }
}

func traded(l []api.Order, price int) int {
	return min(total(l, buysAt(price)), total(l, sellsAt(price)))
}

func total(l []api.Order, chosen func(api.Order) bool) int {
	n := 0
	for _, o := range pick(l, chosen) {
		n += o.Amount
	}
	return n
}

// filled hands out so much among the chosen orders of one side, those of a better price first, of one price the lower places.
func filled(l []api.Order, chosen func(api.Order) bool, byPrice func(a, b api.Order) int, left int) []api.Fill {
	l = pick(l, chosen)
	slices.SortStableFunc(l, func(a, b api.Order) int {
		return cmp.Or(byPrice(a, b), cmp.Compare(a.Place, b.Place))
	})
	var out []api.Fill
	for _, o := range l {
		n := min(o.Amount, left)
		if n <= 0 {
			break
		}
		out = append(out, api.Fill{Id: o.Id, Owner: o.Owner, Amount: n})
		left -= n
	}
	return out
}
