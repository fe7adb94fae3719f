package cluster_test

import (
	"fmt"
	"testing"

	"gavel/api"
	"gavel/cluster"
)

// 13.1: a consortium may be, if each of its numbers is from 1 up to its edge.
func TestNewTakesConsortiumsThatMayBe(t *testing.T) {
	least := api.Config{Faults: 1, Clients: 1, Goods: 1, Patience: 1}
	most := api.Config{Faults: 4, Clients: 16, Goods: 4, Patience: 64}
	for i := range 4 {
		for _, base := range []api.Config{least, most} {
			low, below, high, above := base, base, base, base
			*field(&low, i), *field(&below, i) = 1, 0
			*field(&high, i), *field(&above, i) = *field(&most, i), *field(&most, i)+1
			negative := base
			*field(&negative, i) = -1
			wantNew(t, low, nil, api.OK)
			wantNew(t, high, nil, api.OK)
			wantNew(t, below, nil, api.ErrArg)
			wantNew(t, above, nil, api.ErrArg)
			wantNew(t, negative, nil, api.ErrArg)
		}
	}
	wantNew(t, api.Config{}, nil, api.ErrArg)
}

// field is one of a config's numbers.
func field(c *api.Config, i int) *int {
	return []*int{&c.Faults, &c.Clients, &c.Goods, &c.Patience}[i]
}

// wantNew: New answers so, for liars that are mute or not.
func wantNew(t *testing.T, c api.Config, liars []int, want api.Errno) {
	t.Helper()
	for _, mute := range []bool{false, true} {
		x, e := cluster.New(c, liars, mute)
		if e != want || (x != nil) != (want == api.OK) {
			t.Errorf("New(%+v, %v, %v) = %v, %d, want %d", c, liars, mute, x, e, want)
		}
	}
}

// 13.1: liars are replicas, at most f, none of them twice.
func TestNewTakesLiarsThatMayBe(t *testing.T) {
	for f := 1; f <= 4; f++ {
		c, n := usual(f), 3*f+1
		var all []int
		for i := range f + 1 {
			all = append(all, n-1-i)
		}
		wantNew(t, c, all[:f], api.OK)
		wantNew(t, c, all, api.ErrArg)
		wantNew(t, c, []int{}, api.OK)
		wantNew(t, c, []int{0}, api.OK)
		wantNew(t, c, []int{n - 1}, api.OK)
		for _, i := range []int{-1, n, n + 1, 100, -1 << 63, 1<<63 - 1} {
			wantNew(t, c, []int{i}, api.ErrArg)
			wantNew(t, c, append(all[:f-1:f-1], i), api.ErrArg)
		}
		if f > 1 {
			wantNew(t, c, []int{1, 1}, api.ErrArg)
			wantNew(t, c, append(all[:f-1:f-1], all[0]), api.ErrArg)
		}
	}
	// Of what may not be in more ways than one: still ErrArg.
	wantNew(t, api.Config{}, []int{-1, -1}, api.ErrArg)
}

// 13.1: in a new cluster nothing has happened: no mail, no time, no answers, no history, and its book has numbered nothing.
func TestNewIsEmpty(t *testing.T) {
	for f := 1; f <= 4; f++ {
		for _, mute := range []bool{false, true} {
			p := newPlay(t, usual(f), mute, 0)
			x := p.x
			l, refused := x.Lights()
			if x.Flight() != 0 || x.Time() != 0 || len(l) != 0 || refused != 0 {
				t.Errorf("f %d: %d pieces of mail, the time %d, lights %v, %d", f, x.Flight(), x.Time(), l, refused)
			}
			for i := range p.n {
				view, begun := x.View(i)
				if len(x.History(i)) != 0 || x.Drops(i) != 0 || view != 0 || !begun {
					t.Errorf("f %d, replica %d: history %v, %d drops, view %d, %v", f, i, x.History(i), x.Drops(i), view, begun)
				}
				if x.Honest(i) != (i != 0) {
					t.Errorf("f %d: Honest(%d) = %v", f, i, x.Honest(i))
				}
			}
			for k := range p.c.Clients {
				if len(x.Answers(k)) != 0 || x.Waits(k) {
					t.Errorf("f %d, client %d: answers %v, waits %v", f, k, x.Answers(k), x.Waits(k))
				}
			}
			p.audit()
			if d := fmt.Sprintf("%x", x.Book().Digest("x")); d != "0000000000000001" {
				t.Errorf("f %d: the first digest is %s", f, d)
			}
			if s, _ := x.Book().Sign(0, "x"); fmt.Sprintf("%x", s) != "730000000000000001" {
				t.Errorf("f %d: the first signature is %x", f, s)
			}
		}
	}
}

// Two clusters have nothing in common.
func TestClustersAreApart(t *testing.T) {
	p, q := newPlay(t, usual(1), false), newPlay(t, usual(1), false)
	p.must(pay(0, 5))
	p.calm(2)
	if q.x.Flight() != 0 || q.x.Time() != 0 || q.x.Waits(0) || len(q.x.History(0)) != 0 || p.x.Book() == q.x.Book() {
		t.Error("what is done with a cluster is seen in another one")
	}
}

// What is handed in is not kept: neither liars nor the clients of a step.
func TestWhatIsHandedInIsNotKept(t *testing.T) {
	liars := []int{1, 2, 99}
	x, e := cluster.New(usual(2), liars[:2], false)
	if e != api.OK {
		t.Fatal(e)
	}
	liars[0], liars[1] = 3, 4
	if x.Honest(1) || x.Honest(2) || !x.Honest(3) || !x.Honest(4) {
		t.Error("other liars by a list that was handed in")
	}
	x.Do(pay(0, 1))
	clients := []int{100, 101, 102}
	for _, kind := range []int{api.StepPropose, api.StepVote, api.StepChange, api.StepBegin} {
		x.Do(api.Step{Kind: kind, From: 1, To: 0, View: 1, Seq: 4, Clients: clients[:2]})
		if liars[2] != 99 || clients[0] != 100 || clients[1] != 101 || clients[2] != 102 {
			t.Fatal("a list that was handed in is another one")
		}
	}
}
