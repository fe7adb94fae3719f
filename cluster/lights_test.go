package cluster_test

import (
	"fmt"
	"slices"
	"testing"

	"gavel/api"
	"gavel/cluster"
)

// stable is a play with a stable state of the number 4.
func stable(t *testing.T, f int) *play {
	t.Helper()
	p := newPlay(t, usual(f), true)
	for i := range 4 {
		p.must(pay(0, i+1))
		p.settle()
	}
	p.calm(3)
	p.dropAll()
	return p
}

func ask(k int, key string) api.Step { return api.Step{Kind: api.StepAsk, From: k, Text: key} }

// wantLights: these were shown since, and so often it was refused in all.
func (p *play) wantLights(what string, refused int, want ...cluster.Shown) {
	p.t.Helper()
	l, no := p.x.Lights()
	if !slices.Equal(l, want) || no != refused {
		p.t.Errorf("%s: %+v, %d were refused, want %+v, %d", what, l, no, want, refused)
	}
}

// 13.2: what a client that has asked is sent is verified for its key: what is taken is told in order, with the key; what is refused is counted, but for what is of another kind.
func TestLights(t *testing.T) {
	p := stable(t, 1)
	now := cluster.Shown{Key: "now", Seq: 4, Value: "\x00", Has: true}
	none := cluster.Shown{Key: "none", Seq: 4}
	p.must(ask(1, "now"))
	p.wantLights("nothing was delivered", 0)
	p.x.Round(1) // the replicas answer
	p.wantLights("proofs are on their way", 0)
	p.must(api.Step{Kind: api.StepDeliver, N: 2})
	p.wantLights("one", 0, now)
	p.must(api.Step{Kind: api.StepTwice, N: 0}, api.Step{Kind: api.StepDrop, N: 1})
	p.x.Round(1)
	want := []cluster.Shown{now, now, now, now}
	p.wantLights("one of them doubled, one lost", 0, want...)

	// Replies are of another kind, whether a client has asked for a key or not.
	p.must(pay(1, 3), pay(0, 3))
	p.settle()
	p.wantLights("replies", 0, want...)

	// Another client's question is another one's.
	p.must(ask(2, "none"), ask(1, "now"))
	p.x.Round(2)
	p.wantLights("two clients", 0, append(want, none, none, none, none, now, now, now, now)...)
}

// 13.2: a proof that comes when the client has asked for another key is refused, if it does not show that one.
func TestLightsOfAnotherKey(t *testing.T) {
	p := stable(t, 1)
	p.must(ask(1, "now"))
	p.x.Round(1)
	p.wantNothing("no key: the client goes on with the one that it has", ask(1, ""))
	p.must(api.Step{Kind: api.StepDeliver})
	now := cluster.Shown{Key: "now", Seq: 4, Value: "\x00", Has: true}
	p.wantLights("its key", 0, now)
	p.must(ask(1, "chain"))
	for range 3 {
		p.must(api.Step{Kind: api.StepDeliver})
	}
	p.wantLights("proofs of now for chain", 3, now)
	p.x.Round(2)
	l, refused := p.x.Lights()
	if len(l) != 5 || refused != 3 {
		t.Fatalf("%+v, %d were refused", l, refused)
	}
	for _, s := range l[1:] {
		if s.Key != "chain" || s.Seq != 4 || !s.Has || s.Value != p.x.History(0)[3].Chain {
			t.Errorf("%+v is shown", s)
		}
	}
	p.auditLights(p.fold())

	// What shows that there is nothing between two keys shows it of each key between them.
	p.must(ask(0, "nox"))
	p.x.Round(1)
	p.must(ask(0, "noy"))
	p.must(api.Step{Kind: api.StepDeliver})
	l, refused = p.x.Lights()
	if last := l[len(l)-1]; last != (cluster.Shown{Key: "noy", Seq: 4}) || refused != 3 {
		t.Errorf("%+v, %d were refused", last, refused)
	}
}

// 13.2: what comes to a client that has not asked is not verified.
func TestNoLightsWithoutAQuestion(t *testing.T) {
	p := stable(t, 1)
	p.must(pay(0, 1))
	p.settle()
	p.wantLights("no question", 0)
	p.must(ask(0, "now"))
	p.dropAll()
	p.must(pay(0, 2), pay(1, 2))
	p.settle()
	p.wantLights("replies alone", 0)
}

// 13.2: without a stable state there are no proofs.
func TestNoLightsWithoutAStableState(t *testing.T) {
	p := newPlay(t, usual(1), false)
	p.must(ask(0, "now"))
	p.calm(3)
	p.wantLights("nothing is stable", 0)
}

// 13.4: where nothing is lost, and nobody lies, each proof that is made of a stable state is taken, in whatever order mail is delivered, doubled and late.
func TestEachProofIsTaken(t *testing.T) {
	for f := 1; f <= 3; f++ {
		for seed := range uint32(8 / f) {
			p := newPlay(t, usual(f), false)
			dice := chance(seed*31 + uint32(f))
			proofs := 0
			for range 200 {
				proofs += p.lossless(dice)
			}
			for p.x.Flight() > 0 {
				proofs += p.deliver(0)
			}
			l, refused := p.x.Lights()
			if len(l) != proofs || refused != 0 || proofs < 20 {
				t.Errorf("f %d, %d: %d of %d proofs are taken, %d refused", f, seed, len(l), proofs, refused)
			}
			p.audit()
		}
	}
}

// lossless does a step that loses nothing; how many proofs were delivered.
func (p *play) lossless(dice func(int) int) int {
	k := dice(p.c.Clients)
	switch d := dice(20); {
	case d < 12:
		n := 0
		for range 3 * p.x.Flight() / 4 {
			n += p.deliver(dice(p.x.Flight()))
		}
		return n
	case d < 13:
		p.do(api.Step{Kind: api.StepTwice, N: dice(1 << 20)})
	case d < 15:
		p.must(api.Step{Kind: api.StepTick})
	case d < 18:
		p.do(pay(k, 1+dice(9)))
	default:
		if !p.isAsking(k) {
			p.must(ask(k, []string{"now", "chain", "book/0", "none", "a", "zz"}[dice(6)]))
		}
	}
	return 0
}

// deliver delivers a piece of mail; is it a proof?
func (p *play) deliver(at int) int {
	p.t.Helper()
	_, b := p.opened(p.x.Piece(at).Bytes)
	p.must(api.Step{Kind: api.StepDeliver, N: at})
	if b.Kind == api.KindProof {
		return 1
	}
	return 0
}

// isAsking tells whether a question of a client or a proof for it is on its way: it asks for one key at a time.
func (p *play) isAsking(k int) bool {
	p.t.Helper()
	return slices.ContainsFunc(p.x.Mail(), func(s api.Sent) bool {
		_, b := p.opened(s.Bytes)
		return b.Kind == api.KindAsk && b.Client == k || b.Kind == api.KindProof && s.To == api.FirstClient+k
	})
}

// 13.4: proofs of all keys there are, and of others, of each state that was stable.
func TestProofsOfEachKey(t *testing.T) {
	for f := 1; f <= 4; f++ {
		p := stable(t, f)
		for seq := 4; seq <= 12; seq += 4 {
			keys := []string{"\x00", "c", "chaim", "zz"}
			for _, r := range p.fold().states[seq] {
				keys = append(keys, r.Key)
			}
			for _, key := range keys {
				before, _ := p.x.Lights()
				p.must(ask(1, key))
				p.x.Round(2)
				l, refused := p.x.Lights()
				if len(l) != len(before)+p.n || refused != 0 || l[len(l)-1].Key != key || l[len(l)-1].Seq != seq {
					t.Fatalf("f %d: %q at %d: %d proofs, %d refused", f, key, seq, len(l)-len(before), refused)
				}
			}
			p.audit()
			for i := range 4 {
				p.must(pay(0, i+1))
				p.settle()
			}
			p.calm(3)
		}
	}
}

// A key that is asked for is told as it is, whatever its bytes are.
func TestLightsTellTheKey(t *testing.T) {
	p := stable(t, 1)
	for _, key := range []string{"\xff", "\x00", fmt.Sprintf("%64d", 1), "é"} {
		p.must(ask(0, key))
		p.calm(1)
		l, _ := p.x.Lights()
		if len(l) == 0 || l[len(l)-1].Key != key {
			t.Errorf("%q is told as %+v", key, l)
		}
	}
}
