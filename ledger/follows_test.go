package ledger_test

import (
	"testing"

	"gavel/api"
	"gavel/ledger"
)

// pile is what somebody has of one thing: what is free and what is not, each for itself.
type pile struct{ free, bound int }

// model is a ledger by the words of the chapter: of each client piles of cash and of the goods.
type model struct {
	piles [][5]pile // cash, then good by good
	goods int
}

func (m *model) all(thing int) int {
	n := 0
	for _, p := range m.piles {
		n += p[thing].free + p[thing].bound
	}
	return n
}

// less takes so much of what is there.
func less(from *int, n int) api.Errno {
	if *from < n {
		return api.ErrPoor
	}
	*from -= n
	return api.OK
}

// do is what a call does, and answers.
func (m *model) do(c call) api.Errno {
	if c.who < 0 || c.who >= len(m.piles) || c.two && (c.to < 0 || c.to >= len(m.piles)) {
		return api.ErrAccount
	}
	if c.n < 1 || c.n > most || c.goods && (c.good < 0 || c.good >= m.goods) {
		return api.ErrArg
	}
	thing := 0
	if c.goods {
		thing = c.good + 1
	}
	p := &m.piles[c.who][thing]
	from, to := &p.free, new(int)
	switch c.name {
	case "Pay", "Store":
		if m.all(thing)+c.n > most {
			return api.ErrOver
		}
		from, to = &c.n, &p.free
	case "Hold", "Lock":
		to = &p.bound
	case "Free", "Unlock":
		from, to = &p.bound, &p.free
	case "Move", "Hand":
		from, to = &p.bound, &m.piles[c.to][thing].free
	}
	n := c.n
	if e := less(from, n); e != api.OK {
		return e
	}
	*to += n
	return api.OK
}

func (m *model) account(who int) api.Account {
	p := m.piles[who]
	a := api.Account{Cash: p[0].free + p[0].bound, Held: p[0].bound}
	for good := range 4 {
		a.Goods[good], a.Locked[good] = p[good+1].free+p[good+1].bound, p[good+1].bound
	}
	return a
}

// sound: nothing is below 0, and nobody holds more than there is.
func sound(t *testing.T, x *ledger.Ledger, clients int) {
	t.Helper()
	for who := range clients {
		a, _ := x.Account(who)
		if a.Held < 0 || a.Held > a.Cash {
			t.Fatalf("client %d holds %d of %d", who, a.Held, a.Cash)
		}
		for good := range 4 {
			if a.Locked[good] < 0 || a.Locked[good] > a.Goods[good] {
				t.Fatalf("client %d has locked %d of %d", who, a.Locked[good], a.Goods[good])
			}
		}
	}
}

// 6.2, 6.3, 6.5: many calls, well and wrong, against piles.
func TestManyCalls(t *testing.T) {
	seed := uint32(11)
	next := func(n int) int {
		seed = seed*1664525 + 1013904223
		return int(seed>>16) % n
	}
	for _, size := range [][2]int{{1, 1}, {2, 1}, {3, 2}, {16, 4}} {
		clients, goods := size[0], size[1]
		x, m := newLedger(t, clients, goods), &model{piles: make([][5]pile, clients), goods: goods}
		went, refused := map[string]int{}, map[api.Errno]int{}
		for step := range 20000 {
			n := 1 + next(9)
			switch next(20) {
			case 0:
				n = most - next(1000)
			case 1:
				n = next(3) - 2
			case 2:
				n = most/2 + next(3)
			}
			c := callsOf(next(clients*20+1)%(clients+1), next(clients*20+1)%(clients+1), next(goods*20+1)%(goods+1), n)[next(10)]
			got, want := c.do(x), m.do(c)
			if got != want {
				t.Fatalf("step %d: %s of %d, %d, %d, %d: %d, want %d", step, c.name, c.who, c.to, c.good, c.n, got, want)
			}
			if want == api.OK {
				went[c.name]++
			}
			refused[want]++
			for who := range clients {
				wantAccount(t, x, who, m.account(who))
			}
			wantTotals(t, x, m.all(0), [4]int{m.all(1), m.all(2), m.all(3), m.all(4)})
			sound(t, x, clients)
			if t.Failed() {
				t.Fatalf("step %d: %s of %d, %d, %d, %d", step, c.name, c.who, c.to, c.good, c.n)
			}
		}
		if len(went) != 10 || len(refused) != 5 {
			t.Errorf("of %d clients and %d goods not all was tried: %v, %v", clients, goods, went, refused)
		}
	}
}

// 6.5: what is changed in all by each call that goes well.
func TestConserved(t *testing.T) {
	for _, c := range append(callsOf(0, 1, 1, 3), callsOf(2, 2, 0, 3)...) {
		x := rich(t)
		cash, goods := x.Totals()
		each(t, c.do(x))
		switch c.name {
		case "Pay":
			cash += 3
		case "Take":
			cash -= 3
		case "Store":
			goods[c.good] += 3
		case "Fetch":
			goods[c.good] -= 3
		}
		wantTotals(t, x, cash, goods)
	}
}

// 6.5: no call changes an account that it does not name.
func TestAccountsThatAreNotNamed(t *testing.T) {
	for who := range 3 {
		for to := range 3 {
			l := append(callsOf(who, to, 1, 3), mark(who, 100, "reply"))
			for _, c := range l {
				x := rich(t)
				before := x.Records()
				each(t, c.do(x))
				for i, r := range x.Records() {
					if named := i == who || c.two && i == to; !named && r != before[i] {
						t.Errorf("%s of %d and %d changed %d", c.name, who, to, i)
					}
				}
			}
		}
	}
}

// 6.5: ledgers do not know each other.
func TestTwoLedgers(t *testing.T) {
	x, y := rich(t), rich(t)
	for _, c := range append(callsOf(0, 1, 1, 3), mark(2, 100, "reply")) {
		each(t, c.do(x))
	}
	for who := range 3 {
		a, _ := rich(t).Account(who)
		wantAccount(t, y, who, a)
	}
	wantLast(t, y, 2, 9, "rr")
}
