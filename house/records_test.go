package house_test

import (
	"math"
	"reflect"
	"slices"
	"strings"
	"testing"

	"gavel/api"
	"gavel/house"
	"gavel/wire"
)

// 9.5: the records of houses, written down; there and back.
func TestRecords(t *testing.T) {
	h := newHouse(t, 2, 1)
	done(t, h, 0, pay(300))
	done(t, h, 1, store(0, 9), sell(0, 2, 3, 40), offer(0, 5, 7, 1))
	done(t, h, 0, buy(0, 1, 2, 20), want(0, 6), tick())
	want := []api.Record{
		{Key: "acct/00", Value: laid(4, 300, 88, 0, 0, 2, 0, 1)},
		{Key: "acct/01", Value: laid(3, 0, 0, 9, 8, 2, 0, 0)},
		{Key: "book/0", Value: laid(3, 2, 33, 1, 1, 40, 3, 1, 16, 0, 0, 20, 2, 2)},
		{Key: "clock/0", Value: laid(1, 5, 7, 1, 2, 0, 2, 6, 6, 0, 0)},
		{Key: "now", Value: laid(1)},
	}
	if l := h.Records(); !slices.Equal(l, want) {
		t.Errorf("%q, want\n%q", l, want)
	}
	wantTold(t, "there and back", tell(of(t, 2, 1, want)), tell(h))
}

// rises: records rise, and layer 1 takes them.
func rises(t *testing.T, l []api.Record) {
	t.Helper()
	for i := 1; i < len(l); i++ {
		if l[i-1].Key >= l[i].Key {
			t.Errorf("%q stands ahead of %q", l[i-1].Key, l[i].Key)
		}
	}
	if _, e := wire.PutRecords(l); e != api.OK {
		t.Errorf("PutRecords = %d", e)
	}
}

// 9.5: houses of each size, without anything and with an auction of each set of goods.
func TestRecordsOfEachSize(t *testing.T) {
	for clients := 1; clients <= 16; clients++ {
		for goods := 1; goods <= 4; goods++ {
			for set := range 1 << goods {
				h := newHouse(t, clients, goods)
				s := empty(clients, goods)
				for good := range goods {
					if set&(1<<good) != 0 {
						seller := (clients*good + 3) % clients
						done(t, h, seller, store(good, 5), offer(good, 5, 10, 2))
						a := &s.accounts[seller]
						a.stamp, a.reply, a.goods[good], a.locked[good] = a.stamp+2, "\x00\x00", 5, 5
						s.clocks = append(s.clocks, clockOf{good: good, seller: seller, supply: 5, start: 10, step: 2, round: 1, demands: make([][2]int, clients)})
					}
				}
				l := h.Records()
				if want := s.records(); !slices.Equal(l, want) {
					t.Fatalf("%q, want\n%q", l, want)
				}
				rises(t, l)
				wantTold(t, "there and back", tell(of(t, clients, goods, l)), tell(h))
			}
		}
	}
}

// 9.5: a house that is read goes on as the one that was laid.
func TestGoesOnAlike(t *testing.T) {
	h := of(t, 3, 2, standing().records())
	wantTold(t, "what was written down", told{records: h.Records()}, told{records: standing().records()})
	for step, x := range []struct {
		who int
		o   api.Op
	}{
		{0, pay(5)}, {1, want(1, 1)}, {2, want(1, 4)}, {2, want(1, 3)}, {0, buy(0, 3, 1, 130)}, {1, amend(0, 7, 2, 90)}, {0, tick()},
		{0, tick()}, {2, cancel(1, 0)}, {2, store(1, 3)}, {2, offer(1, 3, 4, 5)}, {0, want(1, 2)}, {1, want(1, 3)}, {2, tick()}, {1, api.Op{}}, {2, tick()},
	} {
		again := of(t, 3, 2, h.Records())
		e1, n1 := ask(t, h, x.who, x.o)
		e2, n2 := ask(t, again, x.who, x.o)
		if e1 != e2 || n1 != n2 {
			t.Errorf("step %d: %d, %d, but of the house that was read %d, %d", step, e1, n1, e2, n2)
		}
		wantTold(t, "of the house that was read", tell(again), tell(h))
		rises(t, h.Records())
		h = again
	}
}

// noState: records are refused, of that many clients and goods.
func noState(t *testing.T, what string, clients, goods int, l []api.Record) {
	t.Helper()
	if h, e := house.Of(clients, goods, l); h != nil || e != api.ErrState {
		t.Errorf("%s: Of(%d, %d, %q) = %v, %d", what, clients, goods, l, h, e)
	}
}

// isState: records are taken, and laid as they were.
func isState(t *testing.T, what string, clients, goods int, l []api.Record) {
	t.Helper()
	h, e := house.Of(clients, goods, l)
	if h == nil || e != api.OK {
		t.Errorf("%s: Of(%d, %d, %q) = %v, %d", what, clients, goods, l, h, e)
		return
	}
	if r := h.Records(); !slices.Equal(r, l) {
		t.Errorf("%s: %q was read and laid as\n%q", what, l, r)
	}
}

// 9.5: ErrArg as of New, ahead of what the records are.
func TestOfIsRefused(t *testing.T) {
	for _, n := range [][2]int{{0, 1}, {17, 1}, {-1, 2}, {math.MinInt, 1}, {math.MaxInt, 1}, {3, 0}, {3, 5}, {3, -1}, {3, math.MinInt}, {3, math.MaxInt}} {
		for _, l := range [][]api.Record{nil, standing().records(), empty(16, 4).records()} {
			if h, e := house.Of(n[0], n[1], l); h != nil || e != api.ErrArg {
				t.Errorf("Of(%d, %d) = %v, %d", n[0], n[1], h, e)
			}
		}
	}
}

// 9.5: records of another number of clients or goods.
func TestOfOtherSizes(t *testing.T) {
	for clients := 1; clients <= 16; clients++ {
		for goods := 1; goods <= 4; goods++ {
			for c := 1; c <= 16; c++ {
				for g := 1; g <= 4; g++ {
					l := empty(c, g).records()
					if c == clients && g == goods {
						isState(t, "a state", clients, goods, l)
					} else {
						noState(t, "another size's", clients, goods, l)
					}
				}
			}
		}
	}
}

// 9.5: one record too few, one too many, another order, another key.
func TestOtherRecords(t *testing.T) {
	s := standing()
	s.clocks = append([]clockOf{{good: 0, seller: 1, supply: 3, start: 1, step: 1, round: 1, demands: make([][2]int, 3)}}, s.clocks...)
	s.accounts[1].locked[0] += 3
	l := s.records()
	isState(t, "a state", 3, 2, l)
	noState(t, "none", 3, 2, nil)
	for i, r := range l {
		noState(t, "a beginning", 3, 2, l[:i])
		noState(t, "an end", 3, 2, l[i+1:])
		noState(t, "one too few", 3, 2, slices.Delete(slices.Clone(l), i, i+1))
		noState(t, "one twice", 3, 2, slices.Insert(slices.Clone(l), i, r))
		noState(t, "one more, of no key", 3, 2, slices.Insert(slices.Clone(l), i, api.Record{}))
		for j := range i {
			x := slices.Clone(l)
			x[i], x[j] = x[j], x[i]
			noState(t, "another order", 3, 2, x)
		}
		for _, key := range []string{"", r.Key + "0", r.Key[:len(r.Key)-1], strings.ToUpper(r.Key), r.Key + "\x00", "acct/03", "book/2", "clock/2", "clock/3", "chain", "now/"} {
			x := slices.Clone(l)
			x[i].Key = key
			noState(t, "another key", 3, 2, x)
		}
		for _, value := range []string{"", r.Value + "\x00", r.Value[:len(r.Value)-1], "\x80\x00" + r.Value[1:], "\x00" + r.Value, "x"} {
			if i == len(l)-1 && value == "x" {
				continue // another time
			}
			x := slices.Clone(l)
			x[i].Value = value
			noState(t, "another value", 3, 2, x)
		}
	}
	for _, key := range []string{"acct/03", "book/2", "clock/2", "clock/3", "chain", "a", "now0", "zero"} {
		for i := 0; i <= len(l); i++ {
			for _, value := range []string{"", "\x00", l[0].Value, l[3].Value, l[6].Value} {
				noState(t, "one too many", 3, 2, slices.Insert(slices.Clone(l), i, api.Record{Key: key, Value: value}))
			}
		}
	}
}

// 9.5: of the time alone each number is taken.
func TestNowOfRecords(t *testing.T) {
	s := standing()
	for _, now := range []int{0, 1, 127, 128, end - 1, end} {
		s.now = now
		isState(t, "a time", 3, 2, s.records())
		if h := of(t, 3, 2, s.records()); h.Now() != now {
			t.Errorf("Now() = %d, want %d", h.Now(), now)
		}
	}
	l := s.records()
	for _, value := range []string{"", "\x80", "\x80\x00", laid(end + 1), laid(1, 1), laid(1) + "x", strings.Repeat("\xff", 8)} {
		l[len(l)-1].Value = value
		noState(t, "a time that is none", 3, 2, l)
	}
}

// changed is the standing sheet, changed.
func changed(change func(s *sheet)) []api.Record {
	s := standing()
	change(&s)
	return s.records()
}

// 9.5: accounts and books that the layers below refuse.
func TestPartsThatAreRefused(t *testing.T) {
	isState(t, "as it stands", 3, 2, standing().records())
	for what, change := range map[string]func(s *sheet){
		"a reply at the stamp 0":     func(s *sheet) { s.accounts[2].reply = "x" },
		"a stamp above the greatest": func(s *sheet) { s.accounts[1].stamp = most + 1 },
		"more than may be":           func(s *sheet) { s.accounts[1].cash = most },
		"a book of no next place":    func(s *sheet) { s.books[0] = book{} },
		"a place that is not given":  func(s *sheet) { s.books[0].next = 3 },
		"places that do not rise":    func(s *sheet) { s.books[0].orders[0].Place = 3 },
		"an amount of 0":             func(s *sheet) { s.books[0].orders[0].Amount = 0; s.accounts[0].held = 0 },
		"a supply of 0":              func(s *sheet) { s.clocks[0].supply = 0; s.accounts[0].locked[1] = 0 },
		"a round of 0":               func(s *sheet) { s.clocks[0].round = 0 },
		"a demand that rose":         func(s *sheet) { s.clocks[0].demands[1] = [2]int{3, 4}; s.accounts[1].held = 48 },
		"no need of a second round":  func(s *sheet) { s.clocks[0].supply = 7; s.accounts[0].locked[1] = 7; s.accounts[0].goods[1] = 7 },
	} {
		noState(t, what, 3, 2, changed(change))
	}
}

// 9.5: a book with an order of no client, or of another number than its owner's.
func TestOrdersOfNobody(t *testing.T) {
	order := func(id, owner int) func(s *sheet) {
		return func(s *sheet) {
			o := &s.books[1].orders[0]
			s.accounts[2].held -= o.Price * o.Amount
			o.Id, o.Owner = id, owner
			if owner < 3 {
				s.accounts[owner].held += o.Price * o.Amount
			}
		}
	}
	for _, x := range [][2]int{{2, 2}, {0, 0}, {1, 1}, {18, 2}, {16 * lot, 0}, {16*lot + 2, 2}, {16*(lot-1) + 1, 1}} {
		isState(t, "a client's order", 3, 2, changed(order(x[0], x[1])))
	}
	for _, owner := range []int{3, 4, 15} {
		noState(t, "no client's", 3, 2, changed(order(owner, owner)))
		noState(t, "no client's", 3, 2, changed(order(16*lot+owner, owner)))
	}
	for _, x := range [][2]int{{0, 2}, {1, 2}, {2, 0}, {2, 1}, {3, 2}, {17, 2}, {15, 2}, {16*lot + 1, 2}, {3, 0}} {
		noState(t, "another number than its owner's", 3, 2, changed(order(x[0], x[1])))
	}
	for _, id := range []int{16*lot + 16, 16*(lot+1) + 2, end - 14, end} {
		noState(t, "an Id above the greatest", 3, 2, changed(order(id, id%16)))
	}
}

// 9.5: an auction that is over, one whose seller wants or wanted something or is no client, one of another number of bidders.
func TestAuctionsThatMayNotBe(t *testing.T) {
	// In its first round, of 5 pieces of good 1 at 10, of which 1 and 2 want some.
	first := func(s *sheet) {
		s.clocks[0].round = 1
		s.clocks[0].demands = [][2]int{{0, 0}, {0, 2}, {0, 3}}
		s.accounts[1].held, s.accounts[2].held = 20, 44
	}
	isState(t, "the first round", 3, 2, changed(first))
	for what, change := range map[string]func(c *clockOf, s *sheet){
		"sold":                             func(c *clockOf, s *sheet) { c.state = 1 },
		"the seller wants something":       func(c *clockOf, s *sheet) { c.demands[0][1] = 1; s.accounts[0].held += 10 },
		"a seller that is no client":       func(c *clockOf, s *sheet) { c.seller = 3; s.accounts[0].locked[1] = 0 },
		"a seller that is far from one":    func(c *clockOf, s *sheet) { c.seller = end; s.accounts[0].locked[1] = 0 },
		"a bidder too few":                 func(c *clockOf, s *sheet) { c.demands = c.demands[:2]; s.accounts[2].held = 14 },
		"a bidder too many":                func(c *clockOf, s *sheet) { c.demands = append(c.demands, [2]int{}) },
		"many too many":                    func(c *clockOf, s *sheet) { c.demands = append(c.demands, make([][2]int, 13)...) },
		"a bidder too many who wants some": func(c *clockOf, s *sheet) { c.demands = append(c.demands, [2]int{0, 1}) },
		"just the seller":                  func(c *clockOf, s *sheet) { c.demands = c.demands[:1]; s.accounts[1].held, s.accounts[2].held = 0, 14 },
		"another seller than who locks":    func(c *clockOf, s *sheet) { c.seller = 1; c.demands[1][1] = 0; s.accounts[1].held = 0 },
	} {
		noState(t, what, 3, 2, changed(func(s *sheet) { first(s); change(&s.clocks[0], s) }))
	}
	for what, change := range map[string]func(c *clockOf, s *sheet){
		"the seller wanted something":           func(c *clockOf, s *sheet) { c.demands[0] = [2]int{1, 0}; s.accounts[0].held += 10 },
		"the seller wanted and wants something": func(c *clockOf, s *sheet) { c.demands[0] = [2]int{1, 1}; s.accounts[0].held += 12 },
		"void":                                  func(c *clockOf, s *sheet) { c.step = most - 10; c.state = 2 },
		"a state that is none":                  func(c *clockOf, s *sheet) { c.state = 3 },
		"sold, in the second round":             func(c *clockOf, s *sheet) { c.state = 1; c.demands[1][1] = 2 },
		"a bidder too many":                     func(c *clockOf, s *sheet) { c.demands = append(c.demands, [2]int{}) },
		"a bidder too many who wants some":      func(c *clockOf, s *sheet) { c.demands = append(c.demands, [2]int{3, 2}) },
		"a bidder too few": func(c *clockOf, s *sheet) {
			c.demands[1][0] = 6
			c.demands = c.demands[:2]
			s.accounts[1].held = 60
			s.accounts[2].held = 14
		},
	} {
		noState(t, what, 3, 2, changed(func(s *sheet) { change(&s.clocks[0], s) }))
	}
	isState(t, "who wants may be the first and the last", 3, 2, changed(func(s *sheet) {
		s.clocks[0].seller, s.clocks[0].demands = 1, [][2]int{{4, 4}, {0, 0}, {3, 0}}
		s.accounts[0].held, s.accounts[0].locked[1] = 548, 0
		s.accounts[1].held, s.accounts[1].goods[1], s.accounts[1].locked[1] = 0, 5, 5
		s.accounts[2].held = 44
	}))
}

// 9.5: a void auction, though all else is as of an open one.
func TestVoidOfRecords(t *testing.T) {
	s := standing()
	c := &s.clocks[0]
	c.start, c.step, c.round, c.demands = 10, most, 1, [][2]int{{0, 0}, {0, 4}, {0, 3}}
	s.accounts[1].held, s.accounts[2].held = 40, 44
	isState(t, "open", 3, 2, s.records())
	c.state = 2
	noState(t, "void", 3, 2, s.records())
}

// 9.5: an account with more or less held or locked than its orders and demands say.
func TestHeldOfRecords(t *testing.T) {
	for who := range 3 {
		for _, n := range []int{-1, 1} {
			noState(t, "another amount is held", 3, 2, changed(func(s *sheet) { s.accounts[who].held += n }))
			for good := range 2 {
				noState(t, "another amount is locked", 3, 2, changed(func(s *sheet) {
					a := &s.accounts[who]
					if a.locked[good]+n < 0 {
						n = 1
					}
					a.locked[good] += n
					a.goods[good] = max(a.goods[good], a.locked[good])
				}))
			}
		}
		noState(t, "nothing is held and locked", 3, 2, changed(func(s *sheet) {
			s.accounts[who].held, s.accounts[who].locked = 0, []int{0, 0}
		}))
	}
	noState(t, "held by another one", 3, 2, changed(func(s *sheet) { s.accounts[0].held++; s.accounts[1].held-- }))
	noState(t, "locked of another good", 3, 2, changed(func(s *sheet) { s.accounts[0].locked[0]++; s.accounts[0].locked[1]-- }))
	noState(t, "held, where nothing stands", 1, 1, []api.Record{
		{Key: "acct/00", Value: laid(0, 9, 1, 0, 0, 0)}, {Key: "book/0", Value: laid(1, 0)}, {Key: "now", Value: laid(0)}})
	noState(t, "locked, where nothing stands", 1, 1, []api.Record{
		{Key: "acct/00", Value: laid(0, 0, 0, 9, 1, 0)}, {Key: "book/0", Value: laid(1, 0)}, {Key: "now", Value: laid(0)}})
	for _, x := range []struct{ was, now, held int }{{4, 3, 40}, {4, 4, 48}, {5, 4, 50}, {6, 5, 60}, {6, 6, 72}, {4, 0, 40}} {
		s := standing()
		s.clocks[0].demands[1] = [2]int{x.was, x.now}
		for held := x.held - 12; held <= x.held+12; held++ {
			s.accounts[1].held = held
			if held == x.held {
				isState(t, "the greater one of two", 3, 2, s.records())
			} else {
				noState(t, "not the greater one of two", 3, 2, s.records())
			}
		}
	}
}

// 9.5: what orders and demands would hold in all is meant as a whole number, however great.
func TestHeldDoesNotWrap(t *testing.T) {
	great := func(n int) []api.Order { // each would hold 2^60
		var l []api.Order
		for i := range n {
			l = append(l, api.Order{Id: 16 * i, Price: most, Amount: lot, Place: 1 + i, Buys: true})
		}
		return l
	}
	for _, counts := range [][]int{{16}, {32}, {48}, {64}, {8, 8}, {64, 64}, {4, 4, 4, 4}, {64, 64, 64, 64}, {1}, {8}, {15, 0, 1, 0}} {
		s := empty(2, len(counts))
		for good, n := range counts {
			s.books[good] = book{next: 65, orders: great(n)}
		}
		for _, held := range []int{0, 1, most} {
			s.accounts[0].cash, s.accounts[0].held = most, held
			noState(t, "more than there can be", 2, len(counts), s.records())
		}
	}
	s := empty(2, 1)
	s.books[0] = book{next: 65, orders: great(15)}
	s.clocks = []clockOf{{seller: 1, supply: 1, start: most, step: 1, round: 1, demands: [][2]int{{0, lot}, {0, 0}}}}
	s.accounts[0].cash = most
	s.accounts[1].goods[0], s.accounts[1].locked[0] = 1, 1
	noState(t, "orders and a demand", 2, 1, s.records())
	s.books[0].orders = nil
	noState(t, "a demand", 2, 1, s.records())
	s.clocks[0].demands[0][1] = 1
	noState(t, "a demand, of whom nothing is held", 2, 1, s.records())
	s.accounts[0].held = most
	isState(t, "a demand that holds all there may be", 2, 1, s.records())
	s.books[0] = book{next: 2, orders: []api.Order{{Id: 16, Price: 1, Amount: 1, Place: 1, Buys: true}}}
	noState(t, "one more than there may be", 2, 1, s.records())
}

// 9.5: what is handed in is neither changed nor kept.
func TestOfKeepsNothing(t *testing.T) {
	l := standing().records()
	given := append(slices.Clone(l), api.Record{Key: "behind", Value: "the end"})
	h := of(t, 3, 2, given[:len(l)])
	if !slices.Equal(given[:len(l)], l) || given[len(l)] != (api.Record{Key: "behind", Value: "the end"}) {
		t.Errorf("%q was changed to %q", l, given)
	}
	before := tell(h)
	clear(given)
	wantTold(t, "behind changes of what was handed in", tell(h), before)
	if a := of(t, 3, 2, l); !reflect.DeepEqual(tell(a), before) {
		t.Errorf("%+v, want %+v", tell(a), before)
	}
	other := of(t, 3, 2, l)
	done(t, other, 0, tick(), cancel(0, 1))
	wantTold(t, "behind what another house of the same records did", tell(h), before)
}
