package cluster_test

import (
	"math"
	"testing"

	"gavel/api"
	"gavel/cluster"
)

// 13.5: Bound, reckoned term by term.
func TestBound(t *testing.T) {
	for _, c := range []struct {
		f, patience, view, want int
	}{
		{1, 4, 0, 208}, // 40 + 4*12 + 2*4*(1+2+4+8)
		{1, 1, 0, 40 + 4*12 + 2*15},
		{1, 1, 1, 40 + 4*12 + 2*30},
		{1, 64, 0, 40 + 4*12 + 128*15},
		{2, 3, 2, 40 + 5*12 + 6*(4+8+16+32+64)},
		{4, 1, 0, 40 + 7*12 + 2*127},
		{1, 1, 13, 40 + 4*12 + 2*(8192+16384+32768+65536)},
		{1, 1, 14, 40 + 4*12 + 2*(16384+32768+65536+65536)},
		{1, 1, 16, 40 + 4*12 + 2*4*65536},
		{1, 1, 17, 40 + 4*12 + 2*4*65536},
		{4, 64, 1 << 20, 40 + 7*12 + 128*7*65536},
		{4, 64, 1<<20 - 1, 40 + 7*12 + 128*7*65536},
		{3, 2, 15, 40 + 6*12 + 4*(32768+5*65536)},
	} {
		x := api.Config{Faults: c.f, Clients: 16, Goods: 4, Patience: c.patience}
		if got := cluster.Bound(x, c.view); got != c.want {
			t.Errorf("Bound(%+v, %d) = %d, want %d", x, c.view, got, c.want)
		}
	}
}

// 13.5: Bound is 0, if the consortium or the view may not be, and does not hang on clients and goods.
func TestBoundOfWhatMayNotBe(t *testing.T) {
	least := api.Config{Faults: 1, Clients: 1, Goods: 1, Patience: 1}
	most := api.Config{Faults: 4, Clients: 16, Goods: 4, Patience: 64}
	for i := range 4 {
		for _, c := range []api.Config{least, most} {
			for _, n := range []int{0, -1, *field(&most, i) + 1, math.MaxInt, math.MinInt} {
				x := c
				*field(&x, i) = n
				if got := cluster.Bound(x, 3); got != 0 {
					t.Errorf("Bound(%+v, 3) = %d, want 0", x, got)
				}
			}
			for _, n := range []int{1, *field(&most, i)} {
				x := c
				*field(&x, i) = n
				if cluster.Bound(x, 0) == 0 || cluster.Bound(x, 1<<20) == 0 {
					t.Errorf("Bound(%+v) = 0", x)
				}
				if i == 1 || i == 2 {
					if cluster.Bound(x, 5) != cluster.Bound(c, 5) {
						t.Errorf("Bound(%+v, 5) is not that of %+v", x, c)
					}
				}
			}
		}
	}
	for _, view := range []int{-1, 1<<20 + 1, math.MinInt, math.MaxInt} {
		for _, c := range []api.Config{least, most} {
			if got := cluster.Bound(c, view); got != 0 {
				t.Errorf("Bound(%+v, %d) = %d, want 0", c, view, got)
			}
		}
	}
}

// 13.5: the first f primaries lie, whether they go on or not.
func TestLivesBehindLyingPrimaries(t *testing.T) {
	for f := 1; f <= 4; f++ {
		for _, mute := range []bool{false, true} {
			var liars []int
			for i := range f {
				liars = append(liars, i)
			}
			p := newPlay(t, usual(f), mute, liars...)
			p.must(pay(0, 5), pay(1, 6))
			for _, i := range liars { // each proposes something else to each
				for to := range p.n {
					p.must(api.Step{Kind: api.StepPropose, From: i, To: to, View: i, Seq: 1, Clients: []int{100 + to%2}})
				}
			}
			p.settle()
			p.audit()
		}
	}
}

// 13.5: liars wish for views that are far away.
func TestLivesThoughLiarsWishForFarViews(t *testing.T) {
	for f := 1; f <= 3; f++ {
		for _, mute := range []bool{false, true} {
			for _, first := range []int{0, 1, 2} {
				var liars []int
				for i := range f {
					liars = append(liars, first+i)
				}
				p := newPlay(t, usual(f), mute, liars...)
				for _, i := range liars {
					for to := range p.n {
						p.must(api.Step{Kind: api.StepChange, From: i, To: to, View: api.MaxView - i%2*5})
					}
				}
				p.calm(1)
				for n := range 6 {
					p.must(pay(n%3, 5))
					p.settle()
					p.audit()
				}
				if p.topView() > f+3 {
					t.Errorf("f %d: view %d", f, p.topView())
				}
			}
		}
	}
}

// wishAll lets all honest replicas wish for the next view, and loses all that is on its way.
func (p *play) wishAll() {
	p.t.Helper()
	view := p.topView() + 1
	for range 1000 {
		if p.allIn(view) {
			p.dropAll()
			return
		}
		p.must(api.Step{Kind: api.StepTick})
	}
	p.t.Fatalf("not all wish for view %d", view)
}

func (p *play) allIn(view int) bool {
	for _, i := range p.honest() {
		if v, _ := p.x.View(i); v != view {
			return false
		}
	}
	return true
}

// 13.5: a liar begins its view for some alone, with whatever wishes it likes.
func TestLivesThoughAViewBeginsForSome(t *testing.T) {
	for _, mute := range []bool{false, true} {
		for some := range 8 {
			p := newPlay(t, usual(1), mute, 1)
			p.must(pay(0, 5))
			p.bring(2)
			p.bring(3)
			p.bring(0)
			p.dropAll() // nothing that 0 proposed comes
			p.wishAll()
			p.must(api.Step{Kind: api.StepChange, From: 1, To: 1, View: 1})
			for at, to := range []int{0, 2, 3} {
				if some>>at&1 == 1 {
					p.must(api.Step{Kind: api.StepBegin, From: 1, To: to, View: 1, Clients: []int{1, 2, 3}})
				}
			}
			for p.x.Flight() > 0 {
				p.must(api.Step{Kind: api.StepDeliver})
			}
			begun := 0
			for _, i := range []int{0, 2, 3} {
				if view, on := p.x.View(i); view == 1 && on {
					begun++
				}
			}
			if want := []int{0, 1, 1, 2, 1, 2, 2, 3}[some]; begun < want {
				t.Errorf("view 1 has begun for %d, want %d", begun, want)
			}
			p.settle()
			p.audit()
		}
	}
}

// 13.5: one was cut off for long: it takes a state over, and all go on, though it is needed now.
func TestLivesBehindOneThatWasCutOff(t *testing.T) {
	for _, mute := range []bool{false, true} {
		p := newPlay(t, api.Config{Faults: 1, Clients: 3, Goods: 1, Patience: 64}, mute, 3)
		for n := range 13 { // by 0, 1 and a liar that votes as it should, without 2
			p.must(pay(n%3, n))
			for to := range 2 {
				for kind := range 2 {
					p.must(api.Step{Kind: api.StepVote, From: 3, To: to, N: kind, Seq: n + 1, Clients: []int{100 + n%3}})
				}
			}
			p.without(2)
			for to := range 2 {
				p.must(raw(3, to, p.likeZero(n+1)))
			}
			p.without(2)
		}
		if p.done(2) != 0 || p.done(0) != 13 || p.done(1) != 13 {
			t.Fatalf("mute %v: 0 to 2 have executed %d, %d, %d", mute, p.done(0), p.done(1), p.done(2))
		}
		p.must(pay(0, 1))
		p.settle()
		w := p.audit()
		if h := p.x.History(2); len(h) != 3 || !h[0].Adopted || h[0].Seq != 12 || w.top != 14 {
			t.Errorf("mute %v: 2 has %+v", mute, h)
		}
	}
}

// without delivers all mail there is, but to one.
func (p *play) without(who int) {
	p.t.Helper()
	for p.cutOff(who); p.x.Flight() > 0; p.cutOff(who) {
		p.must(api.Step{Kind: api.StepDeliver})
	}
}

// likeZero is 3's checkpoint of a number as 0 has it, or noise, if it has none.
func (p *play) likeZero(seq int) string {
	for _, d := range p.x.History(0) {
		if d.Seq == seq && d.Root != "" {
			return p.bytesBy(3, api.Body{Kind: api.KindCheck, Seq: seq, Digest: d.Root})
		}
	}
	return "noise"
}

// 13.5: when calm begins there is no room for mail, whatever it is that was doubled.
func TestLivesBehindAFullNetwork(t *testing.T) {
	for seed := range 6 {
		s := newScript(t, uint32(seed)*65537+9)
		s.run(150)
		for k := range s.c.Clients {
			s.do(pay(k, 1))
		}
		for range 4 {
			s.do(api.Step{Kind: api.StepTick})
		}
		n := s.x.Flight()
		for i := 0; s.x.Flight() < cluster.MaxNet; i++ {
			if seed%2 == 0 {
				s.do(api.Step{Kind: api.StepTwice, N: i})
			} else { // one piece alone
				s.do(api.Step{Kind: api.StepTwice, N: seed * n / 7})
			}
		}
		s.settle()
		s.audit()
	}
}

// 13.5: a request that was lost altogether is asked for again.
func TestLivesThoughAllWasLost(t *testing.T) {
	p := newPlay(t, usual(2), true, 0, 1)
	p.must(pay(0, 1), pay(1, 2))
	p.dropAll()
	for range 3 {
		p.must(api.Step{Kind: api.StepTick})
		p.dropAll()
	}
	p.settle()
	p.audit()
}

// 13.5: also in views far above 0, where replicas have more patience.
func TestLivesInHighViews(t *testing.T) {
	for _, mute := range []bool{false, true} {
		p := newPlay(t, api.Config{Faults: 1, Clients: 2, Goods: 1, Patience: 1}, mute, 2)
		p.must(pay(0, 5))
		for _, i := range []int{0, 1, 3} {
			p.bring(i)
		}
		p.dropAll()
		for range 400 {
			p.must(api.Step{Kind: api.StepTick})
			for p.keepWishes(); p.x.Flight() > 0; p.keepWishes() {
				p.must(api.Step{Kind: api.StepDeliver})
			}
		}
		if p.topView() < 5 {
			t.Fatalf("view %d", p.topView())
		}
		p.must(pay(1, 6))
		p.settle()
		p.audit()
	}
}

// keepWishes loses all mail but wishes.
func (p *play) keepWishes() {
	for i := p.x.Flight() - 1; i >= 0; i-- {
		if _, b := p.opened(p.x.Piece(i).Bytes); b.Kind != api.KindChange {
			p.must(api.Step{Kind: api.StepDrop, N: i})
		}
	}
}
