package cluster_test

import (
	"slices"
	"testing"

	"gavel/api"
	"gavel/house"
)

// script draws steps for a play.
type script struct {
	*play
	dice   func(int) int
	asleep int // to whom mail is lost again and again; -1: nobody
	plot   api.Step
}

// newScript is a script of f 1 or 2 and up to f liars, mute or not.
func newScript(t *testing.T, seed uint32) *script {
	t.Helper()
	dice := chance(seed)
	f := 1 + dice(2)
	c := api.Config{Faults: f, Clients: 1 + dice(3), Goods: 1, Patience: 1 + dice(4)}
	var liars []int
	for range min(f, dice(2*f+1)) {
		if i := dice(3*f + 1); !slices.Contains(liars, i) {
			liars = append(liars, i)
		}
	}
	return &script{play: newPlay(t, c, dice(2) == 0, liars...), dice: dice, asleep: -1}
}

// run does so many steps.
func (s *script) run(steps int) {
	s.t.Helper()
	for range steps {
		s.step()
	}
}

func (s *script) step() {
	s.t.Helper()
	kinds := 40
	if len(s.liars) > 0 {
		kinds = 60
	}
	if s.dice(60) == 0 {
		s.asleep = s.dice(s.n+2) - 2 // with two more that are nobody
	}
	if s.asleep >= 0 {
		s.cutOff(s.asleep)
	}
	switch k := s.dice(kinds); {
	case k < 18:
		n := 0
		if s.dice(2) == 0 {
			n = s.dice(1 << 20)
		}
		s.do(api.Step{Kind: api.StepDeliver, N: n})
	case k < 20:
		s.do(api.Step{Kind: api.StepDrop, N: -s.dice(1 << 20)})
	case k < 21:
		s.do(api.Step{Kind: api.StepTwice, N: s.dice(1 << 20)})
	case k < 24:
		s.do(api.Step{Kind: api.StepTick})
	case k < 27:
		s.bring(s.someone())
	case k < 28:
		s.cutOff(s.someone())
	case k < 30:
		s.someRound()
	case k < 36:
		s.do(api.Step{Kind: api.StepRequest, From: s.dice(s.c.Clients), Op: s.someOp()})
	case k < 38:
		s.do(api.Step{Kind: api.StepAsk, From: s.dice(s.c.Clients), Text: s.someKey()})
	case k < 40:
		s.do(api.Step{Kind: api.StepTick})
		s.bring(s.someone())
	default:
		s.lie()
	}
}

// someone is a replica or a client.
func (s *script) someone() int {
	i := s.dice(s.n + s.c.Clients)
	if i >= s.n {
		return api.FirstClient + i - s.n
	}
	return i
}

// someRound is a round in which all is delivered, but to who sleeps.
func (s *script) someRound() {
	if s.asleep < 0 {
		s.do(api.Step{Kind: api.StepCalm})
		return
	}
	s.do(api.Step{Kind: api.StepTick})
	for range s.dice(4) {
		s.cutOff(s.asleep)
		for range s.x.Flight() {
			s.do(api.Step{Kind: api.StepDeliver})
		}
	}
}

func (s *script) someKey() string {
	return []string{"now", "chain", "book/0", "clock/0", "acc/0", "a", "none", "zz"}[s.dice(8)]
}

// someOp is what a client might ask of the house.
func (s *script) someOp() api.Op {
	l := []api.Op{
		{Kind: house.Tick},
		{Kind: house.Pay, Amount: 1 + s.dice(60)},
		{Kind: house.Take, Amount: 1 + s.dice(30)},
		{Kind: house.Store, Amount: 1 + s.dice(9)},
		{Kind: house.Offer, Amount: 1 + s.dice(4), Price: 0.125, Side: 1},
		{Kind: house.Want, Amount: 1 + s.dice(4)},
		{Kind: house.Put, Id: s.dice(4), Side: s.dice(2), Amount: 1 + s.dice(3), Price: 0.125 * float64(1+s.dice(3))},
		{Kind: house.Cancel, Id: s.dice(4)},
		{Kind: -1},
	}
	return l[s.dice(len(l))]
}

// lie lets a liar say something, mostly to several.
func (s *script) lie() {
	step := s.someLie()
	if s.dice(4) > 0 {
		s.plot = step
	}
	for _, i := range s.honest() {
		if s.dice(3) > 0 {
			step.To = i
			s.do(step)
		}
	}
	if s.dice(6) == 0 {
		step.To = s.dice(s.n)
		s.do(step)
	}
}

// place is a view and a number near to where some honest replica is.
func (s *script) place() (view, seq int) {
	l := s.honest()
	i := l[s.dice(len(l))]
	view, _ = s.x.View(i)
	return max(0, view+s.dice(3)-1), s.done(i) + s.dice(4)
}

// someLie is a liar's step.
func (s *script) someLie() api.Step {
	who := s.liars[s.dice(len(s.liars))]
	view, seq := s.place()
	l := api.Step{From: who, View: view, Seq: seq, N: s.dice(7) - 3, Text: s.someKey(), Clients: s.someClients()}
	if s.dice(2) == 0 && s.plot.Kind != 0 { // goes on with what it told before
		l.View, l.Seq, l.Clients = s.plot.View, s.plot.Seq, s.plot.Clients
	}
	switch s.dice(12) {
	case 0, 1, 2:
		l.Kind = api.StepPropose
		for s.dice(4) > 0 && l.View%s.n != who {
			l.View++
		}
	case 3, 4, 5:
		l.Kind = api.StepVote
		if round := s.dice(3); round == 2 {
			l.N, l.Seq = 2, 4*(1+s.dice(4))
		}
	case 6, 7:
		l.Kind = api.StepChange
		l.View = s.topView() + s.dice(3)
		l.Seq = 4 * s.dice(1+seq/4+1)
		l.Clients = s.someReplicas()
	case 8, 9, 10:
		l.Kind = api.StepBegin
		l.View = s.topView() + s.dice(2)
		for s.dice(5) > 0 && l.View%s.n != who {
			l.View++
		}
		l.Clients = s.someReplicas()
	default:
		l.Kind = api.StepRaw
		l.Text = s.someBytes(who)
	}
	return l
}

func (s *script) someClients() []int {
	var l []int
	for range s.dice(4) {
		l = append(l, api.FirstClient+s.dice(s.c.Clients+1))
	}
	return l
}

// someReplicas are, mostly, rising.
func (s *script) someReplicas() []int {
	var l []int
	for i := range s.n {
		if s.dice(5) > 0 {
			l = append(l, i)
		}
	}
	if s.dice(8) == 0 {
		slices.Reverse(l)
	}
	return l
}

// someBytes are what a liar makes up: noise, mail of somebody's with a byte that is another one, mail as it is, or some body of its own.
func (s *script) someBytes(who int) string {
	mail := s.x.Mail()
	switch s.dice(4) {
	case 0:
		return "noise"
	case 1:
		if len(mail) > 0 {
			b := []byte(mail[s.dice(len(mail))].Bytes)
			b[s.dice(len(b))] ^= byte(1 + s.dice(255))
			return string(b)
		}
	case 2:
		if len(mail) > 0 {
			return mail[s.dice(len(mail))].Bytes
		}
	}
	view, seq := s.place()
	return s.bytesBy(who, api.Body{Kind: api.KindStatus, View: view, Seq: seq, Client: s.dice(2), Stamp: s.dice(9)})
}
