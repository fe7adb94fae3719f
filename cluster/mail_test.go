package cluster_test

import (
	"math"
	"slices"
	"testing"

	"gavel/api"
	"gavel/cluster"
	"gavel/house"
	"gavel/wire"
)

// 13.2: without mail there is nothing to deliver, to lose or to double.
func TestNoMail(t *testing.T) {
	p := newPlay(t, usual(1), false)
	for _, kind := range []int{api.StepDeliver, api.StepDrop, api.StepTwice} {
		for _, n := range []int{0, 1, -1, math.MaxInt, math.MinInt} {
			p.wantNothing("no mail", api.Step{Kind: kind, N: n})
		}
	}
}

// 13.2: a kind that is none does nothing, with mail and without, whoever it is of.
func TestNoSuchKind(t *testing.T) {
	p := filled(t, 3)
	for _, kind := range []int{0, 6, 14, -1, -13, 15, 257, math.MaxInt, math.MinInt} {
		p.wantNothing("no kind", api.Step{Kind: kind})
		p.wantNothing("no kind", api.Step{Kind: kind, From: 0, To: 1, N: 1, View: 1, Seq: 4, Text: "a", Clients: []int{100}})
	}
}

// counted tells which piece of so many a step's N means.
var counted = []struct{ n, many, want int }{
	{0, 5, 0}, {1, 5, 1}, {4, 5, 4}, {5, 5, 0}, {6, 5, 1}, {14, 5, 4}, {15, 5, 0},
	{-1, 5, 1}, {-4, 5, 4}, {-5, 5, 0}, {-7, 5, 2},
	{math.MaxInt, 5, 2}, {math.MinInt, 5, 3}, {math.MinInt + 1, 5, 2}, // 2^63 is 3 more than a multiple of 5
	{0, 1, 0}, {7, 1, 0}, {math.MinInt, 1, 0},
	{math.MinInt, 3, 2}, {math.MaxInt, 3, 1}, {math.MinInt, 2, 0},
}

// 13.2: N counts round the mail on its way by its size; the piece is lost, doubled behind all, or delivered.
func TestNCountsRound(t *testing.T) {
	for _, c := range counted {
		all := make([]int, c.many)
		for i := range all {
			all[i] = i
		}
		rest := slices.Delete(slices.Clone(all), c.want, c.want+1)
		p := filled(t, c.many)
		p.wantMail("filled", all...)
		p.must(api.Step{Kind: api.StepDrop, N: c.n})
		p.wantMail("lost", rest...)
		for i := range 4 {
			if p.x.Drops(i) != 0 {
				t.Errorf("what is lost came to %d", i)
			}
		}

		p = filled(t, c.many)
		p.must(api.Step{Kind: api.StepTwice, N: c.n})
		p.wantMail("doubled", append(all, c.want)...)

		p = filled(t, c.many)
		p.must(api.Step{Kind: api.StepDeliver, N: c.n})
		p.wantMail("delivered", rest...)
		for i := range 4 {
			want := 0
			if i == c.want%4 && i != 0 {
				want = 1
			}
			if p.x.Drops(i) != want {
				t.Errorf("%+v: %d was delivered %d, want %d", c, i, p.x.Drops(i), want)
			}
		}
	}
}

// 13.2: pieces are taken out one by one, and the others stay as they stand; what was doubled may be delivered as often.
func TestMailInAnyOrder(t *testing.T) {
	dice := chance(5)
	p := filled(t, 12)
	want := []int{0, 1, 2, 3, 4, 5, 6, 7, 8, 9, 10, 11}
	for range 400 {
		n := dice(1<<16) - 1<<15
		if len(want) == 0 {
			break
		}
		at := max(n, -n) % len(want)
		kind := []int{api.StepDeliver, api.StepDrop, api.StepTwice}[dice(3)]
		p.must(api.Step{Kind: kind, N: n})
		if kind == api.StepTwice {
			want = append(want, want[at])
		} else {
			want = slices.Delete(want, at, at+1)
		}
		p.wantMail("in any order", want...)
	}
}

// 13.2: what is sent for a delivered piece goes on its way behind all.
func TestWhatIsSentStandsBehindAll(t *testing.T) {
	p := newPlay(t, usual(1), false, 3)
	p.must(pay(0, 5), raw(3, 1, noise(1)), raw(3, 2, noise(2)))
	before := p.x.Mail()
	if len(before) != 6 {
		t.Fatalf("%d on their way", len(before))
	}
	for i, m := range before[:4] {
		if _, b := p.opened(m.Bytes); m.To != i || b.Kind != api.KindRequest || b.Client != 0 || b.Stamp != 1 {
			t.Errorf("%+v to %d at %d", b, m.To, i)
		}
	}
	p.must(api.Step{Kind: api.StepDeliver, N: 1}) // to 1, who sends it on to the primary
	after := p.x.Mail()
	want := append(slices.Delete(slices.Clone(before), 1, 2), api.Sent{To: 0, Bytes: before[1].Bytes})
	if !slices.Equal(after, want) {
		t.Errorf("%v, want %v", after, want)
	}
	p.must(api.Step{Kind: api.StepDeliver}) // to 0, who proposes and votes
	more := p.x.Mail()
	if len(more) != len(want)-1+6 || !slices.Equal(more[:len(want)-1], want[1:]) {
		t.Errorf("%v, want %v and six more", more, want[1:])
	}
	for i, m := range more[len(want)-1:] {
		kind := api.KindPropose + i/3
		if s, b := p.opened(m.Bytes); s.From != 0 || b.Kind != kind || m.To != i%3+1 {
			t.Errorf("%+v to %d at %d", b, m.To, i)
		}
	}
}

// 13.2: at a tick each replica has one, then each client; mute liars have none.
func TestTicks(t *testing.T) {
	for _, mute := range []bool{false, true} {
		for _, tick := range []func(p *play){
			func(p *play) { p.x.Tick() },
			func(p *play) { p.must(api.Step{Kind: api.StepTick}) },
			func(p *play) { p.x.Round(0) },
		} {
			p := newPlay(t, usual(1), mute, 2)
			p.must(pay(1, 5), pay(0, 6))
			p.dropAll()
			for i := 1; i <= 3; i++ {
				tick(p)
				if p.x.Flight() != 0 || p.x.Time() != i {
					t.Fatalf("%d on their way at the time %d, want none at %d", p.x.Flight(), p.x.Time(), i)
				}
			}
			tick(p)
			p.wantSenders(mute)
			if p.x.Time() != 4 {
				t.Errorf("the time %d, want 4", p.x.Time())
			}
		}
	}
}

// wantSenders: on their way is what all told how far they are, by their numbers, and what the clients 0 and 1 ask again.
func (p *play) wantSenders(mute bool) {
	p.t.Helper()
	l := p.x.Mail()
	at := 0
	for _, who := range []int{0, 1, 2, 3, 100, 101} {
		if who == 2 && mute {
			continue
		}
		for to := range 4 {
			if to == who {
				continue
			}
			if at >= len(l) {
				p.t.Fatalf("%d on their way", len(l))
			}
			m, b := p.opened(l[at].Bytes)
			kind := api.KindStatus
			if who >= 100 {
				kind = api.KindRequest
			}
			if l[at].To != to || m.From != who || b.Kind != kind {
				p.t.Errorf("at %d: kind %d of %d to %d, want %d of %d to %d", at, b.Kind, m.From, l[at].To, kind, who, to)
			}
			at++
		}
	}
	if at != len(l) {
		p.t.Errorf("%d on their way, want %d", len(l), at)
	}
}

// 13.2: a mute liar takes nothing that is delivered; one that is not takes it as a replica does.
func TestMailOfLiars(t *testing.T) {
	for _, mute := range []bool{false, true} {
		p := newPlay(t, usual(1), mute, 0)
		p.must(raw(0, 0, "noise"), pay(0, 5))
		fresh := p.pictureOf(0)
		p.must(api.Step{Kind: api.StepDeliver}) // the noise, to itself
		p.must(api.Step{Kind: api.StepDeliver}) // the request
		sent, drops := 6, 1
		if mute {
			sent, drops = 0, 0
		}
		if p.x.Flight() != 3+sent || p.x.Drops(0) != drops {
			t.Errorf("mute %v: %d on their way, %d drops", mute, p.x.Flight(), p.x.Drops(0))
		}
		p.calm(3)
		if mute && p.pictureOf(0) != fresh {
			t.Errorf("a mute liar goes on: %s", p.pictureOf(0))
		}
		if done := p.done(0); (done == 0) != mute {
			t.Errorf("mute %v: the liar has executed %d", mute, done)
		}
	}
}

// 13.2: a client asks for an op as layer 1 lays it, and for the empty text, if it lays none.
func TestRequests(t *testing.T) {
	p := newPlay(t, usual(1), false)
	ops := []api.Op{{Kind: house.Pay, Amount: 7}, {}, {Kind: house.Tick}, {Kind: 99, Price: math.Inf(1)}, {Kind: -1}, {Amount: -1}, {Id: api.MaxNumber}, {Id: api.MaxNumber + 1}}
	for i, o := range ops {
		p.must(api.Step{Kind: api.StepRequest, From: 2, Op: o})
		want, e := wire.PutOp(o)
		if (e != api.OK) != (want == "") {
			t.Fatal(e)
		}
		l := p.x.Mail()
		if len(l) < 4 {
			t.Fatalf("%+v: %d on their way", o, len(l))
		}
		for to, m := range l[len(l)-4:] {
			s, b := p.opened(m.Bytes)
			if m.To != to || s.From != 102 || b.Kind != api.KindRequest || b.Client != 2 || b.Stamp != i+1 || b.Text != want {
				t.Errorf("%+v: %+v of %d to %d", o, b, s.From, m.To)
			}
		}
		if !p.x.Waits(2) || p.x.Waits(0) || p.x.Waits(1) {
			t.Errorf("%+v: another one waits", o)
		}
		p.wantNothing("it waits", pay(2, 1))
		p.settle()
	}
	w := p.audit()
	if len(p.x.Answers(2)) != len(ops) || w.replies[2][5] != "\x5a\x00" { // of the empty text: no such request
		t.Errorf("answers %+v", p.x.Answers(2))
	}
}

// 13.2: there is no such client.
func TestNoSuchClient(t *testing.T) {
	p := filled(t, 2)
	for _, k := range []int{-1, 3, 100, 101, math.MaxInt, math.MinInt} {
		p.wantNothing("no client", pay(k, 1))
		p.wantNothing("no client", api.Step{Kind: api.StepAsk, From: k, Text: "now"})
	}
	p.must(pay(0, 1), pay(2, 1), api.Step{Kind: api.StepAsk, From: 2, Text: "now"})
}

// 13.2: a client asks for a key that layer 12 takes, whether it waits or not.
func TestAsks(t *testing.T) {
	p := newPlay(t, usual(1), false)
	long := string(make([]byte, 64))
	p.wantNothing("no key", api.Step{Kind: api.StepAsk, From: 1})
	p.wantNothing("a key that is too long", api.Step{Kind: api.StepAsk, From: 1, Text: long + "x"})
	for i, key := range []string{"a", long, "\x00", "now"} {
		p.must(api.Step{Kind: api.StepAsk, From: 1, Text: key})
		l := p.x.Mail()
		if len(l) != 4 {
			t.Fatalf("%q: %d on their way", key, len(l))
		}
		for to, m := range l {
			s, b := p.opened(m.Bytes)
			if m.To != to || s.From != 101 || b.Kind != api.KindAsk || b.Client != 1 || b.Text != key {
				t.Errorf("%q: %+v of %d to %d", key, b, s.From, m.To)
			}
		}
		if p.x.Waits(1) != (i > 0) {
			t.Errorf("%q: it waits: %v", key, p.x.Waits(1))
		}
		if i == 0 {
			p.must(pay(1, 1))
		}
		p.dropAll()
	}
}

// 13.2: at most MaxNet pieces are on their way, and what is more is lost, whoever sends it; the step that sent it did something.
func TestMaxNet(t *testing.T) {
	if cluster.MaxNet != 20000 {
		t.Fatalf("MaxNet = %d", cluster.MaxNet)
	}
	p := newPlay(t, usual(1), true, 0)
	p.must(raw(0, 1, noise(1)))
	for range cluster.MaxNet - 2 {
		p.must(api.Step{Kind: api.StepTwice})
	}
	if p.x.Flight() != cluster.MaxNet-1 {
		t.Fatalf("%d on their way", p.x.Flight())
	}
	p.must(raw(0, 2, noise(2)))
	full := p.x.Mail()
	if len(full) != cluster.MaxNet || full[len(full)-1].Bytes != noise(2) {
		t.Fatalf("%d on their way", len(full))
	}
	p.must(raw(0, 3, noise(3)), api.Step{Kind: api.StepTwice}, pay(0, 5), api.Step{Kind: api.StepAsk, Text: "now"})
	for range 4 {
		p.must(api.Step{Kind: api.StepTick})
	}
	if !slices.Equal(p.x.Mail(), full) || !p.x.Waits(0) {
		t.Error("more mail than there may be")
	}
	p.must(api.Step{Kind: api.StepDrop}, api.Step{Kind: api.StepDrop}, pay(1, 6))
	l := p.x.Mail()
	if len(l) != cluster.MaxNet || l[cluster.MaxNet-1].To != 1 {
		t.Errorf("%d on their way, the last one to %d, want the first two of four", len(l), l[len(l)-1].To)
	}
}

// 13.2: what is not delivered yet in a round is on its way, and counts: there is room for one piece for each that was delivered.
func TestMaxNetInRounds(t *testing.T) {
	p := newPlay(t, usual(1), false, 3)
	p.must(pay(0, 5))
	for p.x.Flight() < cluster.MaxNet {
		p.must(raw(3, 1, noise(1)))
	}
	p.x.Round(1)
	l := p.x.Mail()
	if len(l) != 4 {
		t.Fatalf("%d on their way, want 4", len(l))
	}
	for i, m := range l { // of the six that 0 sends the first one; what each of the others sends on to 0
		kind, to := api.KindRequest, 0
		if i == 0 {
			kind, to = api.KindPropose, 1
		}
		if _, b := p.opened(m.Bytes); b.Kind != kind || m.To != to {
			t.Errorf("at %d: kind %d to %d, want %d to %d", i, b.Kind, m.To, kind, to)
		}
	}
	if p.x.Drops(1) != cluster.MaxNet-4 {
		t.Errorf("1 has dropped %d", p.x.Drops(1))
	}
}

// 13.2: a round is a tick, and delivery of all that is on its way then, so many times, at most 100.
func TestRounds(t *testing.T) {
	for _, c := range []struct{ times, want int }{{math.MinInt, 0}, {-1, 0}, {0, 0}, {1, 1}, {2, 2}, {3, 3}, {4, 4}, {99, 99}, {100, 100}, {101, 100}, {math.MaxInt, 100}} {
		p, q := newPlay(t, usual(1), false, 2), newPlay(t, usual(1), false, 2)
		for range 9 { // by hand: a tick, and as often all that there is then
			for k := range 3 {
				p.do(pay(k, 5))
				q.do(pay(k, 5))
			}
			p.x.Round(c.times)
			q.must(api.Step{Kind: api.StepTick})
			for range c.want {
				for range q.x.Flight() {
					q.must(api.Step{Kind: api.StepDeliver})
				}
			}
			if p.picture() != q.picture() {
				t.Fatalf("Round(%d) is not %d times over", c.times, c.want)
			}
		}
	}
}

// 13.2: a step of calm is a round of three, whatever its other fields are.
func TestCalmIsARoundOfThree(t *testing.T) {
	p, q := newPlay(t, usual(2), true, 3), newPlay(t, usual(2), true, 3)
	for i := range 12 {
		p.do(pay(i%3, i))
		q.do(pay(i%3, i))
		p.must(api.Step{Kind: api.StepCalm, N: 7, From: 99, To: -1})
		q.x.Round(3)
		if p.picture() != q.picture() || p.x.Time() != i+1 {
			t.Fatalf("a step of calm is no Round(3)")
		}
	}
	if p.done(0) == 0 {
		t.Error("nothing was executed")
	}
}
