package cluster_test

import (
	"math"
	"slices"
	"testing"

	"gavel/api"
	"gavel/client"
	"gavel/cluster"
)

// lived is a play in which all was done once: batches, checkpoints, a state that was taken over, answers, lights.
func lived(t *testing.T) *play {
	t.Helper()
	p := newPlay(t, usual(1), false, 2)
	for i := range 11 {
		p.must(pay(i%3, i))
		for range 3 {
			p.cutOff(3)
			p.x.Tick()
			for range 3 {
				p.cutOff(3)
				for range p.x.Flight() {
					p.must(api.Step{Kind: api.StepDeliver})
				}
			}
		}
	}
	p.must(raw(2, 1, "noise"), api.Step{Kind: api.StepAsk, From: 1, Text: "now"})
	p.calm(6)
	p.audit()
	if h := p.x.History(3); len(h) == 0 || !h[0].Adopted {
		t.Fatalf("3 has taken over no state: %+v", h)
	}
	return p
}

// 13.2: of no such replica and no such client nothing is told.
func TestNothingOfNoSuchOne(t *testing.T) {
	p := lived(t)
	x := p.x
	for _, i := range []int{-1, 4, 5, 100, 101, math.MaxInt, math.MinInt} {
		view, begun := x.View(i)
		if x.Honest(i) || len(x.History(i)) != 0 || len(x.Records(i)) != 0 || view != 0 || begun || x.Drops(i) != 0 {
			t.Errorf("of the replica %d something is told", i)
		}
	}
	for _, k := range []int{-1, 3, 4, 100, 102, math.MaxInt, math.MinInt} {
		if len(x.Answers(k)) != 0 || x.Waits(k) {
			t.Errorf("of the client %d something is told", k)
		}
	}
}

// 13.2: of each replica and each client what it tells; of liars too.
func TestWhatIsTold(t *testing.T) {
	p := lived(t)
	x := p.x
	p.must(pay(1, 9))
	for i := range 4 {
		view, begun := x.View(i)
		if x.Honest(i) != (i != 2) || len(x.History(i)) == 0 || len(x.Records(i)) < 5 || view != 0 || !begun || p.done(i) != 11 {
			t.Errorf("replica %d: Honest %v, %d records, view %d, %v, history %+v", i, x.Honest(i), len(x.Records(i)), view, begun, x.History(i))
		}
	}
	if x.Drops(1) < 1 {
		t.Error("no noise was dropped")
	}
	for k := range 3 {
		if len(x.Answers(k)) != (11-k+2)/3 || x.Waits(k) != (k == 1) {
			t.Errorf("client %d: answers %+v, waits %v", k, x.Answers(k), x.Waits(k))
		}
	}
	if x.Time() != 33+6 || x.Flight() != 4 {
		t.Errorf("the time %d, want 39; %d on their way, want 4", x.Time(), x.Flight())
	}
	if x.Book() == nil || x.Book() != x.Book() {
		t.Error("there is no one book")
	}
}

// 13.2: a view that has not begun, and one above 0, are told.
func TestViewsAreTold(t *testing.T) {
	p := newPlay(t, usual(1), true, 0)
	p.must(pay(0, 5))
	for range 3 {
		p.x.Round(1)
	}
	p.x.Tick() // the request came with the first one, and has waited for more than two
	for i := 1; i <= 3; i++ {
		if view, begun := p.x.View(i); view != 1 || begun {
			t.Errorf("%d is in view %d, %v, want 1, which has not begun", i, view, begun)
		}
	}
	p.calm(3)
	for i := 1; i <= 3; i++ {
		if view, begun := p.x.View(i); view != 1 || !begun {
			t.Errorf("%d is in view %d, %v, want 1, which has begun", i, view, begun)
		}
	}
	if view, begun := p.x.View(0); view != 0 || !begun {
		t.Errorf("the mute one is in view %d, %v", view, begun)
	}
}

// What is told is not kept: whatever is done with it, it is told again as it was.
func TestWhatIsToldIsNotKept(t *testing.T) {
	p := lived(t)
	before := p.picture()
	for i := range 4 {
		h, r := p.x.History(i), p.x.Records(i)
		clear(h)
		clear(r)
		_ = append(h[:0], api.Done{Seq: 7})
		_ = append(r[:1], api.Record{Key: "a"})
	}
	for k := range 3 {
		a := p.x.Answers(k)
		clear(a)
		_ = append(a[:0], client.Answer{Stamp: 9})
	}
	l, _ := p.x.Lights()
	if len(l) == 0 {
		t.Fatal("no lights")
	}
	clear(l)
	_ = append(l[:0], cluster.Shown{Key: "a"})
	if after := p.picture(); after != before {
		t.Errorf("%s, then %s", before, after)
	}
	old, _ := p.x.Lights()
	keep := slices.Clone(old)
	_ = append(old, cluster.Shown{Key: "mine"})
	p.must(api.Step{Kind: api.StepAsk, From: 1, Text: "chain"})
	p.calm(2)
	if !slices.Equal(old, keep) {
		t.Error("what was told has changed")
	}
}

// To be told something changes nothing: neither what comes of a script nor what the book numbers.
func TestTellingChangesNothing(t *testing.T) {
	p, q := newPlay(t, usual(1), false, 1), newPlay(t, usual(1), false, 1)
	for i := range 8 {
		for _, x := range []*play{p, q} {
			x.must(pay(0, i))
			x.calm(3)
		}
		p.picture()
	}
	if p.picture() != q.picture() || p.numbered() != q.numbered() || p.signed() != q.signed() {
		t.Error("what was told has changed what came")
	}
}

// 13.6: of a cluster that there is not: nothing, false, 0. One that New did not give is none, either.
func TestNoCluster(t *testing.T) {
	for name, x := range map[string]*cluster.Cluster{"nil": nil, "zero": {}} {
		for kind := -1; kind <= 14; kind++ {
			for _, from := range []int{-1, 0, 1, 100} {
				if x.Do(api.Step{Kind: kind, From: from, To: from, View: 1, Seq: 4, Text: "a", Clients: []int{100}}) {
					t.Errorf("%s: a step of kind %d of %d is done", name, kind, from)
				}
			}
		}
		x.Tick()
		for _, n := range []int{-1, 0, 1, 3, 100, 101} {
			x.Round(n)
		}
		l, refused := x.Lights()
		if x.Book() != nil || len(l) != 0 || refused != 0 || x.Flight() != 0 || x.Time() != 0 {
			t.Errorf("%s: %v, lights %v, %d, flight %d, time %d", name, x.Book(), l, refused, x.Flight(), x.Time())
		}
		for _, i := range []int{-1, 0, 1, 3, 100} {
			view, begun := x.View(i)
			if x.Honest(i) || len(x.History(i)) != 0 || len(x.Records(i)) != 0 || view != 0 || begun || x.Drops(i) != 0 || len(x.Answers(i)) != 0 || x.Waits(i) {
				t.Errorf("%s: of %d something is told", name, i)
			}
		}
	}
}

// The chapter's example: four replicas, 3 mute; client 0 pays 5, two rounds of calm: its answer is two bytes 0.
func TestExample(t *testing.T) {
	x, e := cluster.New(api.Config{Faults: 1, Clients: 1, Goods: 1, Patience: 4}, []int{3}, true)
	if e != api.OK || !x.Do(pay(0, 5)) || !x.Do(api.Step{Kind: api.StepCalm}) || !x.Do(api.Step{Kind: api.StepCalm}) {
		t.Fatal(e)
	}
	if got := x.Answers(0); x.Waits(0) || !slices.Equal(got, []client.Answer{{Stamp: 1, Text: "\x00\x00"}}) {
		t.Errorf("answers %+v, waits %v", got, x.Waits(0))
	}
}
