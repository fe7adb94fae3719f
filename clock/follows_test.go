package clock_test

import (
	"reflect"
	"slices"
	"testing"

	"gavel/api"
	"gavel/clock"
)

// model is an auction by the words of the chapter: each round's demands at its end, the last one's as they are now.
type model struct {
	supply, start, step int
	rounds              [][]int
	state               int
}

func sum(l []int) int {
	n := 0
	for _, x := range l {
		n += x
	}
	return n
}

func (m *model) now() []int { return m.rounds[len(m.rounds)-1] }

// ahead are the demands of the round ahead; of the first one nothing.
func (m *model) ahead() []int {
	if len(m.rounds) == 1 {
		return make([]int, len(m.now()))
	}
	return m.rounds[len(m.rounds)-2]
}

// price is that of the round r, counted up step by step.
func (m *model) price(r int) int {
	p := m.start
	for range r - 1 {
		p += m.step
	}
	return p
}

func (m *model) bid(who, n int) api.Errno {
	switch {
	case m.state != clock.Open:
		return api.ErrClosed
	case who < 0 || who >= len(m.now()) || n < 0 || n > lot:
		return api.ErrArg
	case len(m.rounds) > 1 && n > m.ahead()[who]:
		return api.ErrRise
	}
	m.now()[who] = n
	return api.OK
}

func (m *model) next() (bool, api.Errno) {
	switch {
	case m.state != clock.Open:
		return false, api.ErrClosed
	case sum(m.now()) <= m.supply:
		m.state = clock.Sold
	case m.price(len(m.rounds)+1) > top:
		m.state = clock.Void
	default:
		m.rounds = append(m.rounds, slices.Clone(m.now()))
	}
	return m.state != clock.Open, api.OK
}

func (m *model) sale() (int, []int, api.Errno) {
	r := len(m.rounds)
	switch {
	case m.state == clock.Open:
		return 0, nil, api.ErrNone
	case m.state == clock.Void:
		return 0, make([]int, len(m.now())), api.OK
	case r == 1 || sum(m.now()) == m.supply:
		return m.price(r), m.now(), api.OK
	}
	gets, gaps := slices.Clone(m.now()), make([]int, len(m.now()))
	for who := range gaps {
		gaps[who] = m.ahead()[who] - gets[who]
	}
	for who, n := range sharesBy(m.supply-sum(gets), gaps) {
		gets[who] += n
	}
	return m.price(r - 1), gets, api.OK
}

func (m *model) bytes() string {
	l := []int{m.supply, m.start, m.step, len(m.rounds), m.state, len(m.now())}
	for who, n := range m.now() {
		l = append(l, m.ahead()[who], n)
	}
	return laid(l...)
}

func (m *model) tell() told {
	r := len(m.rounds)
	s := told{demand: sum(m.now()), price: m.price(r), supply: m.supply, round: r, state: m.state, bytes: m.bytes()}
	if r > 1 {
		s.last = m.price(r - 1)
	}
	for who := -1; who <= 17; who++ {
		var x [2]int
		if who >= 0 && who < len(m.now()) {
			x = [2]int{m.ahead()[who], m.now()[who]}
		}
		s.wants = append(s.wants, x)
	}
	s.sold, s.gets, s.e = m.sale()
	return s
}

// wantFollows: what the chapter promises of an auction that is over.
func wantFollows(t *testing.T, a *clock.Auction, m *model) {
	t.Helper()
	last := len(m.rounds) - 1
	for r, wants := range m.rounds {
		if enough := sum(wants) <= m.supply; enough != (r == last && a.State() == clock.Sold) {
			t.Fatalf("of %d in round %d of %d %d were wanted; the state is %d", m.supply, r+1, last+1, sum(wants), a.State())
		}
	}
	if a.State() == clock.Void {
		return
	}
	_, gets, _ := a.Sale()
	for who, n := range gets {
		if n < m.now()[who] || last > 0 && n > m.ahead()[who] {
			t.Fatalf("bidder %d gets %d, of %v and ahead %v", who, n, m.now(), m.ahead())
		}
	}
	if all := sum(gets); last == 0 && all != sum(m.now()) || last > 0 && all != m.supply {
		t.Fatalf("%d of %d are sold behind %d rounds", all, m.supply, last+1)
	}
}

// someAuction is an auction, low or near the greatest price, and its model.
func someAuction(t *testing.T, dice func(int) int) (*clock.Auction, *model) {
	most := 1 << dice(21)
	m := &model{supply: 1 + dice(most), start: dice(100), step: 1 + dice(50), rounds: [][]int{make([]int, 1+dice(16))}}
	if dice(3) == 0 {
		m.start = top - dice(200)
	}
	return newAuction(t, m.supply, m.start, m.step, len(m.now())), m
}

// 7.1 to 7.4, 7.6: many auctions, each call of them against the model, some of them read anew in between.
func TestManyAuctions(t *testing.T) {
	dice := chance(7)
	ended, bids := map[[2]int]int{}, map[api.Errno]int{}
	for range 1500 {
		a, m := someAuction(t, dice)
		for a.State() == clock.Open {
			for range dice(3 * len(m.now())) {
				who, n := dice(len(m.now())*20+1)%(len(m.now())+1), dice(min(m.supply, lot/2)*2+1)
				if len(m.rounds) > 1 && who < len(m.now()) {
					n = m.ahead()[who] + 1 - dice(m.ahead()[who]/4+3)
				}
				got, want := a.Bid(who, n), m.bid(who, n)
				if got != want {
					t.Fatalf("Bid(%d, %d) = %d, want %d in %+v", who, n, got, want, m)
				}
				bids[got]++
			}
			gotOver, got := a.Next()
			wantOver, want := m.next()
			if gotOver != wantOver || got != want {
				t.Fatalf("Next() = %v, %d, want %v, %d in %+v", gotOver, got, wantOver, want, m)
			}
			if x, y := tell(a), m.tell(); !reflect.DeepEqual(x, y) {
				t.Fatalf("told\n%+v\nwant\n%+v", x, y)
			}
			if b := thereAndBack(t, a); dice(2) == 0 {
				a = b
			}
		}
		wantFollows(t, a, m)
		wantBid(t, a, 0, 0, api.ErrClosed)
		ended[[2]int{a.State(), min(len(m.rounds), 3)}]++
	}
	// Sold and void, each in the first round, in the second one and later; demands that were taken, that may not be, that rise.
	if len(ended) != 6 || len(bids) != 3 {
		t.Errorf("not all was tried: %v, %v", ended, bids)
	}
}

// 7.4: auctions do not know each other.
func TestTwoAuctions(t *testing.T) {
	a, b := newAuction(t, 5, 10, 2, 2), newAuction(t, 5, 10, 2, 2)
	before := tell(b)
	bid(t, a, 4, 3)
	c := of(t, a.Bytes())
	next(t, a, clock.Open)
	bid(t, a, 1)
	next(t, a, clock.Sold)
	if now := tell(b); !reflect.DeepEqual(now, before) {
		t.Errorf("another one is changed to %v", now)
	}
	wantTells(t, c, tells{1, 10, 0, 7, 5, clock.Open})
}
