package cluster_test

import (
	"fmt"
	"slices"
	"testing"

	"gavel/api"
	"gavel/wire"
)

// seen is what scripts came to, so that they are not ones in which nothing happens.
type seen struct{ views, adopted, shown, refused, executed, muted, rounds int }

func (w *seen) note(p *play) {
	w.views = max(w.views, p.topView())
	for _, i := range p.honest() {
		for _, d := range p.x.History(i) {
			if d.Adopted {
				w.adopted++
			}
		}
		w.executed = max(w.executed, p.done(i))
	}
	l, refused := p.x.Lights()
	w.shown += len(l)
	w.refused += refused
	if p.mute && len(p.liars) > 0 {
		w.muted++
	}
}

// 13.3 and 13.5: behind scripts with losses, doubles, late mail, changes of views, states that are taken over, and up to f liars, all that honest replicas, clients and proofs tell is so; and in calm all that is asked for is done within the bound, and it is still so.
func TestScripts(t *testing.T) {
	var w seen
	for seed := range 150 {
		t.Run(fmt.Sprint(seed), func(t *testing.T) {
			s := newScript(t, uint32(seed)*2654435761+1)
			for range 4 {
				s.run(60 + s.dice(60))
				s.audit()
			}
			s.calmDown(&w)
			w.note(s.play)
		})
	}
	if w.views < 3 || w.adopted < 20 || w.shown < 100 || w.refused < 10 || w.executed < 12 || w.muted < 20 || w.rounds < 20 {
		t.Errorf("the scripts come to nothing: %+v", w)
	}
}

// calmDown (13.5): who waits, and who asks then, has its answer within the bound; a second request likewise.
func (s *script) calmDown(w *seen) {
	s.t.Helper()
	for k := range s.c.Clients {
		if s.dice(2) == 0 {
			s.do(pay(k, 1))
		}
	}
	w.rounds = max(w.rounds, s.settle())
	s.audit()
	for k := range s.c.Clients {
		s.must(pay(k, 2))
	}
	s.settle()
	s.audit()
}

// G1 and G2 for more replicas, by fewer scripts.
func TestScriptsOfGreaterConsortiums(t *testing.T) {
	var w seen
	for seed := range 10 {
		t.Run(fmt.Sprint(seed), func(t *testing.T) {
			dice := chance(uint32(seed)*40503 + 11)
			f := 3 + seed%2
			var liars []int
			for len(liars) < f {
				if i := dice(3*f + 1); !slices.Contains(liars, i) {
					liars = append(liars, i)
				}
			}
			c := api.Config{Faults: f, Clients: 5, Goods: 2, Patience: 1 + dice(3)}
			s := &script{play: newPlay(t, c, seed%4 < 2, liars...), dice: dice, asleep: -1}
			s.run(400)
			s.audit()
			s.calmDown(&w)
			w.note(s.play)
		})
	}
	if w.views < 1 || w.executed < 2 {
		t.Errorf("the scripts come to nothing: %+v", w)
	}
}

// R4: a script that is played twice is the same.
func TestAScriptPlayedTwice(t *testing.T) {
	for seed := range uint32(12) {
		s := newScript(t, seed*31337+2)
		s.run(250)
		q := newPlay(t, s.c, s.mute, s.liars...)
		twin := newShadow(q, s.mute) // signs what the script's liars sign themselves
		twin.book, twin.other = q.x.Book(), s.x.Book()
		for _, x := range s.played {
			if x.Kind == api.StepRaw {
				twin.signToo(x)
			}
			q.do(x)
		}
		if s.picture() != q.picture() || s.numbered() != q.numbered() || s.signed() != q.signed() {
			t.Errorf("script %d is another one when it is played again", seed)
		}
	}
}

// 13.3: bytes that are no rightly signed message change nothing at an honest replica, but that it has dropped one more.
func TestNoiseChangesNothing(t *testing.T) {
	p := lived(t)
	p.must(pay(0, 1))
	p.x.Round(2) // in the midst of it
	mail := p.x.Mail()
	if len(mail) < 6 {
		t.Fatalf("%d on their way", len(mail))
	}
	texts := []string{"", "a", "\x00", "\x02\x00\x00", string(make([]byte, api.MaxBytes))}
	for _, m := range mail {
		texts = append(texts, m.Bytes[1:], m.Bytes[:len(m.Bytes)-1], m.Bytes+"\x00")
		for i := range m.Bytes {
			b := []byte(m.Bytes)
			b[i] ^= 1
			if !p.isSigned(string(b)) {
				texts = append(texts, string(b))
			}
		}
	}
	at := p.x.Flight()
	for _, text := range texts {
		for _, to := range []int{0, 1, 3} {
			before, drops := p.pictureOf(to), p.x.Drops(to)
			p.must(raw(2, to, text), api.Step{Kind: api.StepDeliver, N: at})
			if p.pictureOf(to) != before || p.x.Drops(to) != drops+1 || p.x.Flight() != at {
				t.Fatalf("%x changes something at %d", text, to)
			}
		}
	}
	if !slices.Equal(p.x.Mail(), mail) {
		t.Error("other mail is on its way")
	}
	p.settle()
	p.audit()
}

// isSigned tells whether bytes are a rightly signed message.
func (p *play) isSigned(text string) bool {
	m, e := wire.OfSigned(text)
	if e != api.OK {
		return false
	}
	_, e = p.x.Book().Open(m)
	return e == api.OK
}

// 13.3: a primary that tells one replica this and another one that, and votes for both, is not followed but where a quorum agrees.
func TestTwoFacedPrimary(t *testing.T) {
	for seed := range uint32(60) {
		dice := chance(seed)
		p := newPlay(t, usual(1), dice(2) == 0, 0)
		p.must(pay(0, 5), pay(1, 6), pay(2, 7))
		p.dropAll()
		faces := [][]int{{100}, {101, 102}, {102, 100, 101}}
		mine := make([]int, 4) // which face it shows to whom
		for to := 1; to <= 3; to++ {
			mine[to] = dice(3)
			p.must(api.Step{Kind: api.StepPropose, From: 0, To: to, Seq: 1, Clients: faces[mine[to]]})
		}
		for range 200 {
			to := 1 + dice(3)
			face := mine[to]
			if dice(6) == 0 {
				face = dice(3)
			}
			p.must(api.Step{Kind: api.StepVote, From: 0, To: to, N: dice(2), Seq: 1, Clients: faces[face]})
			for range 2 {
				p.do(api.Step{Kind: api.StepDeliver, N: dice(1 << 16)})
			}
		}
		p.audit()
		p.settle()
		p.audit()
	}
}

// 13.3: a checkpoint of a liar's, and a proof on it, are not taken: what is shown is what a quorum has.
func TestLiesOfCheckpoints(t *testing.T) {
	p := newPlay(t, usual(1), true, 3)
	p.must(ask(0, "now"))
	for i := range 9 {
		for to := range 3 {
			p.must(api.Step{Kind: api.StepVote, From: 3, To: to, N: 2, Seq: 4 * (1 + i%3), Text: "a lie"})
		}
		p.must(pay(i%3, 2))
		p.settle()
		p.must(ask(0, "now"))
		p.calm(2)
		p.audit()
	}
	if l, refused := p.x.Lights(); len(l) < 6 || refused != 0 {
		t.Errorf("%d are shown, %d refused", len(l), refused)
	}
}
