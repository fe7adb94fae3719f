package cluster_test

import (
	"fmt"
	"slices"
	"testing"

	"gavel/api"
	"gavel/authn"
	"gavel/client"
	"gavel/cluster"
	"gavel/core"
	"gavel/wire"
)

// shadow is a second reckoning of a cluster, as plain as the chapter's table.
type shadow struct {
	c        api.Config
	book     *authn.Book
	other    *authn.Book // the cluster's
	replicas []*core.Replica
	clients  []*client.Client
	liars    []int
	mute     bool
	net, log []post
	keys     []string
	shown    []cluster.Shown
	refused  int
	time     int
}

// post is a piece of mail.
type post struct {
	from, to int
	bytes    string
}

func newShadow(p *play, mute bool) *shadow {
	s := &shadow{c: p.c, book: authn.NewBook(), other: p.x.Book(), liars: p.liars, mute: mute, keys: make([]string, p.c.Clients)}
	for i := range p.n {
		r, _ := core.New(p.c, i, s.book)
		s.replicas = append(s.replicas, r)
	}
	for k := range p.c.Clients {
		y, _ := client.New(p.c, k, s.book)
		s.clients = append(s.clients, y)
	}
	return s
}

func (s *shadow) send(from int, l []api.Sent) {
	for _, m := range l {
		s.log = append(s.log, post{from, m.To, m.Bytes})
		if len(s.net) < 20000 {
			s.net = append(s.net, post{from, m.To, m.Bytes})
		}
	}
}

func (s *shadow) isMute(i int) bool { return s.mute && slices.Contains(s.liars, i) }

// deliver takes a piece off its way, and hands it over.
func (s *shadow) deliver(at int) {
	m := s.net[at]
	s.net = slices.Delete(s.net, at, at+1)
	if m.to < 100 {
		if !s.isMute(m.to) {
			s.send(m.to, s.replicas[m.to].Receive(m.bytes))
		}
		return
	}
	k := m.to - 100
	s.clients[k].Receive(m.bytes)
	if s.keys[k] == "" {
		return
	}
	v, e := client.Verify(s.c, s.book, s.keys[k], m.bytes)
	if e == api.OK {
		s.shown = append(s.shown, cluster.Shown{Key: s.keys[k], Seq: v.Seq, Value: v.Value, Has: v.Has})
	} else if e != api.ErrKind {
		s.refused++
	}
}

func (s *shadow) tick() {
	s.time++
	for i, r := range s.replicas {
		if !s.isMute(i) {
			s.send(i, r.Tick())
		}
	}
	for k, y := range s.clients {
		s.send(100+k, y.Tick())
	}
}

func (s *shadow) round(times int) {
	s.tick()
	for range times {
		for range len(s.net) {
			s.deliver(0)
		}
	}
}

// said is the last message by somebody, among the last 20000 pieces of mail, that is of a kind and fits.
func (s *shadow) said(who, kind int, fits func(p post, b api.Body) bool) []api.Signed {
	for i := len(s.log) - 1; i >= max(0, len(s.log)-20000); i-- {
		m, e := wire.OfSigned(s.log[i].bytes)
		if e != api.OK {
			continue
		}
		b, e := s.book.Open(m)
		if e == api.OK && m.From == who && b.Kind == kind && fits(s.log[i], b) {
			return []api.Signed{m}
		}
	}
	return nil
}

func (s *shadow) requests(whom []int) []api.Signed {
	var l []api.Signed
	for _, who := range whom {
		l = append(l, s.said(who, api.KindRequest, func(p post, b api.Body) bool { return p.from == who })...)
	}
	return l[:min(len(l), 4)]
}

func (s *shadow) do(x api.Step) bool {
	at := 0
	if len(s.net) > 0 {
		at = max(x.N, -x.N) % len(s.net)
	}
	switch x.Kind {
	case api.StepDeliver, api.StepDrop, api.StepTwice:
		if len(s.net) == 0 {
			return false
		}
		switch x.Kind {
		case api.StepDeliver:
			s.deliver(at)
		case api.StepDrop:
			s.net = slices.Delete(s.net, at, at+1)
		default:
			if len(s.net) < 20000 {
				s.net = append(s.net, s.net[at])
			}
		}
		return true
	case api.StepTick:
		s.tick()
		return true
	case api.StepCalm:
		s.round(3)
		return true
	case api.StepRequest:
		op, _ := wire.PutOp(x.Op)
		l, e := s.clients[x.From].Request(op)
		s.send(100+x.From, l)
		return e == api.OK
	case api.StepAsk:
		l, e := s.clients[x.From].Ask(x.Text)
		s.send(100+x.From, l)
		if e == api.OK {
			s.keys[x.From] = x.Text
		}
		return e == api.OK
	case api.StepRaw:
		s.signToo(x)
		s.send(x.From, []api.Sent{{To: x.To, Bytes: x.Text}})
		return true
	}
	return s.lie(x)
}

// signToo signs what a liar's own bytes are signed with by the cluster's book.
func (s *shadow) signToo(x api.Step) {
	m, e := wire.OfSigned(x.Text)
	if e == api.OK && m.From == x.From && s.other.Check(m.From, m.Body, m.Sig) {
		s.book.Sign(m.From, m.Body)
	}
}

// lie does the steps in which a liar signs something. (The scripts let liars alone do it.)
func (s *shadow) lie(x api.Step) bool {
	b := api.Body{View: x.View, Seq: x.Seq}
	switch x.Kind {
	case api.StepPropose:
		b.Kind, b.List = api.KindPropose, s.requests(x.Clients)
	case api.StepVote:
		b.Kind = []int{api.KindPrepare, api.KindCommit, api.KindCheck}[max(x.N, -x.N)%3]
		if b.Seq == 0 || b.Kind == api.KindCheck && b.Seq%4 != 0 {
			return false
		}
		text, _ := wire.Batch(s.requests(x.Clients))
		if b.Kind == api.KindCheck {
			b.View, text = 0, x.Text
		}
		b.Digest = s.book.Digest(text)
	case api.StepChange:
		b.Kind = api.KindChange
		for _, who := range x.Clients {
			b.List = append(b.List, s.said(who, api.KindCheck, func(_ post, b api.Body) bool { return b.Seq == x.Seq })...)
		}
	case api.StepBegin:
		b.Kind, b.Seq = api.KindBegin, 0
		for _, who := range x.Clients {
			b.List = append(b.List, s.said(who, api.KindChange, func(_ post, b api.Body) bool { return b.View == x.View })...)
		}
	}
	m, e := s.book.Seal(x.From, b)
	if e != api.OK {
		return false
	}
	text, _ := wire.PutSigned(m)
	s.send(x.From, []api.Sent{{To: x.To, Bytes: text}})
	return true
}

// picture is all that is told, as a play's picture tells it.
func (s *shadow) picture() string {
	out := fmt.Sprint(s.time, len(s.net), s.shown, s.refused)
	for _, m := range s.net {
		out += fmt.Sprint(m.to, m.bytes)
	}
	for i, r := range s.replicas {
		view, begun := r.View()
		out += fmt.Sprint(i, view, begun, r.Drops(), r.Done())
	}
	for _, y := range s.clients {
		out += fmt.Sprint(y.Waits(), y.Answers())
	}
	return out
}

func (p *play) shadowPicture() string {
	x := p.x
	l, refused := x.Lights()
	out := fmt.Sprint(x.Time(), x.Flight(), l, refused)
	for _, m := range x.Mail() {
		out += fmt.Sprint(m.To, m.Bytes)
	}
	for i := range p.n {
		view, begun := x.View(i)
		out += fmt.Sprint(i, view, begun, x.Drops(i), p.done(i))
	}
	for k := range p.c.Clients {
		out += fmt.Sprint(x.Waits(k), x.Answers(k))
	}
	return out
}

// wantShadow: all that is told is what the second reckoning tells.
func (p *play) wantShadow(what string, s *shadow) {
	p.t.Helper()
	if p.shadowPicture() != s.picture() {
		p.t.Fatalf("%s: not as the second reckoning has it", what)
	}
}

// wantSame: histories, states and the book are the second reckoning's, too.
func (p *play) wantSame(what string, s *shadow) {
	p.t.Helper()
	p.wantShadow(what, s)
	for i, r := range s.replicas {
		if !slices.Equal(p.x.History(i), r.History()) || !slices.Equal(p.x.Records(i), r.Records()) {
			p.t.Fatalf("%s: replica %d is not as the second reckoning has it", what, i)
		}
	}
	if p.x.Book().Digest("probe") != s.book.Digest("probe") {
		p.t.Errorf("%s: the book has numbered other texts", what)
	}
	mine, _ := p.x.Book().Sign(255, "probe")
	if its, _ := s.book.Sign(255, "probe"); mine != its {
		p.t.Errorf("%s: the book has given other signatures", what)
	}
}

// 13.2: scripts are held step by step against a second reckoning.
func TestScriptsAgainstASecondReckoning(t *testing.T) {
	for seed := range 24 {
		s := newScript(t, uint32(seed)*7919+3)
		twin := newShadow(s.play, s.mute)
		s.also = func(x api.Step, ok bool) {
			if got := twin.do(x); got != ok {
				t.Fatalf("script %d: Do(%+v) = %v, want %v", seed, x, ok, got)
			}
		}
		for step := range 250 {
			s.step()
			if step%10 == 0 {
				s.wantShadow(fmt.Sprintf("script %d, step %d", seed, step), twin)
			}
		}
		s.wantSame(fmt.Sprintf("script %d", seed), twin)
	}
}

// 13.2: also with a network that is full, and doubled mail for which more is sent than there is room for.
func TestFloodsAgainstASecondReckoning(t *testing.T) {
	for seed := range 2 {
		s := newScript(t, uint32(seed)*104729+5)
		s.run(120)
		twin := newShadow(s.play, s.mute)
		for _, x := range s.played {
			twin.do(x)
		}
		s.wantShadow("ahead of the flood", twin)
		flood := func(x api.Step) {
			if s.do(x) != twin.do(x) {
				t.Fatalf("script %d: Do(%+v)", seed, x)
			}
		}
		for range 4 {
			flood(api.Step{Kind: api.StepTick})
		}
		for i := 0; s.x.Flight() < cluster.MaxNet; i++ {
			flood(api.Step{Kind: api.StepTwice, N: i})
		}
		flood(api.Step{Kind: api.StepTwice, N: 3})
		for range 3 {
			flood(api.Step{Kind: api.StepCalm})
			s.wantShadow(fmt.Sprintf("flood %d", seed), twin)
		}
		s.wantSame(fmt.Sprintf("flood %d", seed), twin)
		s.audit()
	}
}
