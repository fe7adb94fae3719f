package cluster_test

import (
	"math"
	"slices"
	"testing"

	"gavel/api"
	"gavel/cluster"
	"gavel/wire"
)

// liarKinds are the kinds of steps by which liars say something.
var liarKinds = []int{api.StepRaw, api.StepPropose, api.StepVote, api.StepChange, api.StepBegin}

// wantSaid: a step sends one piece to To, a body that From signed.
func (p *play) wantSaid(what string, s api.Step, want api.Body) {
	p.t.Helper()
	before := p.x.Flight()
	p.must(s)
	l := p.x.Mail()
	if len(l) != before+1 {
		p.t.Fatalf("%s: Do(%+v) sends %d", what, s, len(l)-before)
	}
	got := l[before]
	if text := p.bytesBy(s.From, want); got.To != s.To || got.Bytes != text {
		m, b := p.opened(got.Bytes)
		p.t.Errorf("%s: Do(%+v) sends %d %+v of %d, want %+v", what, s, got.To, b, m.From, want)
	}
}

// of7 is a play of seven, of whom 1 and 4 lie, and client 0 to 2 have asked, each for something else.
func of7(t *testing.T, mute bool) *play {
	t.Helper()
	p := newPlay(t, usual(2), mute, 4, 1)
	p.must(pay(0, 5), pay(1, 6), pay(2, 7))
	return p
}

// request is the message by which a client asked.
func (p *play) request(k, stamp int) api.Signed {
	p.t.Helper()
	m, e := p.x.Book().Seal(api.FirstClient+k, api.Body{Kind: api.KindRequest, Client: k, Stamp: stamp, Text: p.asked[k][stamp-1]})
	if e != api.OK {
		p.t.Fatal(e)
	}
	return m
}

// 13.2: only a liar says what the script lets it, and only to a replica.
func TestNoSuchLiar(t *testing.T) {
	for _, mute := range []bool{false, true} {
		p := of7(t, mute)
		p.calm(1)
		for _, kind := range liarKinds {
			s := api.Step{Kind: kind, From: 1, To: 0, View: 1, Seq: 4, Text: "a", Clients: []int{100}}
			for _, from := range []int{-1, 0, 2, 3, 5, 6, 7, 100, 101, 104, math.MaxInt, math.MinInt} {
				s.From = from
				p.wantNothing("no liar", s)
			}
			for _, to := range []int{-1, 7, 8, 100, 102, math.MaxInt, math.MinInt} {
				s.From, s.To = 1, to
				p.wantNothing("no such To", s)
			}
		}
		for _, from := range []int{1, 4} {
			for to := range 7 {
				p.must(raw(from, to, "noise"))
			}
		}
	}
	p := newPlay(t, usual(1), false)
	for from := range 4 {
		p.wantNothing("nobody lies", raw(from, 0, "noise"))
	}
}

// 13.2: a raw text of up to 2^21 bytes is sent as it is.
func TestRaw(t *testing.T) {
	p := newPlay(t, usual(1), true, 2)
	most := string(make([]byte, api.MaxBytes))
	for _, text := range []string{"", "a", "\x00\xff", most[:1<<20], most[1:], most} {
		p.must(raw(2, 1, text))
		l := p.x.Mail()
		if got := l[len(l)-1]; got.To != 1 || got.Bytes != text {
			t.Errorf("%d bytes to %d, want %d to 1", len(got.Bytes), got.To, len(text))
		}
	}
	p.wantNothing("too long", raw(2, 1, most+"\x00"))
	drops := p.x.Drops(1)
	p.x.Round(1)
	if p.x.Drops(1) != drops+6 {
		t.Errorf("%d drops, want 6 more than %d", p.x.Drops(1), drops)
	}
}

// 13.2: a proposal has the last requests of each of Clients, in this order, at most four.
func TestPropose(t *testing.T) {
	p := of7(t, true)
	r := []api.Signed{p.request(0, 1), p.request(1, 1), p.request(2, 1)}
	for _, c := range []struct {
		clients []int
		want    []api.Signed
	}{
		{nil, nil},
		{[]int{100}, r[:1]},
		{[]int{102, 100, 101}, []api.Signed{r[2], r[0], r[1]}},
		{[]int{101, 101}, []api.Signed{r[1], r[1]}},
		{[]int{0, 1, 2, 4, 99, 103, 255, 256, -1, -156, math.MaxInt, math.MinInt}, nil}, // they sent none
		{[]int{0, 102, 103, 101, -1}, []api.Signed{r[2], r[1]}},
		{[]int{100, 101, 102, 100, 101}, []api.Signed{r[0], r[1], r[2], r[0]}},
		{[]int{99, 103, 104, 105, 106, 100, 101, 102, 102, 100}, []api.Signed{r[0], r[1], r[2], r[2]}},
	} {
		s := api.Step{Kind: api.StepPropose, From: 4, To: 6, View: 4, Seq: 1, Clients: c.clients, N: 2, Text: "a", Op: api.Op{Kind: 2}}
		p.wantSaid("a proposal", s, api.Body{Kind: api.KindPropose, View: 4, Seq: 1, List: c.want})
	}
	p.wantSaid("at the edges", api.Step{Kind: api.StepPropose, From: 1, To: 1, View: api.MaxView, Seq: api.MaxSeq}, api.Body{Kind: api.KindPropose, View: api.MaxView, Seq: api.MaxSeq})
	for _, s := range []api.Step{{Seq: 0}, {Seq: -1}, {Seq: api.MaxSeq + 1}, {Seq: 1, View: -1}, {Seq: 1, View: api.MaxView + 1}, {Seq: math.MinInt}, {Seq: math.MaxInt}} {
		s.Kind, s.From, s.Clients = api.StepPropose, 1, []int{100}
		p.wantNothing("no such proposal", s)
	}
}

// 13.2: a vote is by N a prepare or a commit for the batch of these requests, or a checkpoint of a text.
func TestVote(t *testing.T) {
	p := of7(t, false)
	batch := func(l ...api.Signed) string {
		s, e := wire.Batch(l)
		if e != api.OK {
			t.Fatal(e)
		}
		return p.x.Book().Digest(s)
	}
	r := []api.Signed{p.request(0, 1), p.request(1, 1), p.request(2, 1)}
	clients := []int{102, 7, 100, 101, 102, 100}
	for _, c := range []struct{ n, kind int }{
		{0, api.KindPrepare}, {1, api.KindCommit}, {2, api.KindCheck}, {3, api.KindPrepare}, {4, api.KindCommit}, {5, api.KindCheck},
		{-1, api.KindCommit}, {-2, api.KindCheck}, {-3, api.KindPrepare}, {math.MaxInt, api.KindCommit}, {math.MinInt, api.KindCheck},
	} {
		s := api.Step{Kind: api.StepVote, From: 1, To: 3, N: c.n, View: 9, Seq: 8, Text: "root", Clients: clients}
		want := api.Body{Kind: c.kind, View: 9, Seq: 8}
		if c.kind == api.KindCheck {
			want.View, want.Digest = 0, p.x.Book().Digest("root")
		} else {
			want.Digest = batch(r[2], r[0], r[1], r[2])
		}
		p.wantSaid("a vote", s, want)
		s.Clients, s.Text, s.From, s.To = nil, "", 4, 4
		if c.kind == api.KindCheck {
			want.Digest = p.x.Book().Digest("")
		} else {
			want.Digest = batch()
		}
		p.wantSaid("a vote for nothing", s, want)
	}
	check := api.Body{Kind: api.KindCheck, Seq: 4, Digest: p.x.Book().Digest("a")}
	for _, view := range []int{-1, api.MaxView + 1, math.MinInt} { // a checkpoint has none
		p.wantSaid("a checkpoint", api.Step{Kind: api.StepVote, From: 1, N: 2, View: view, Seq: 4, Text: "a"}, check)
	}
	p.wantSaid("a long text", api.Step{Kind: api.StepVote, From: 1, N: 2, Seq: 4, Text: string(make([]byte, api.MaxBytes+1))}, api.Body{Kind: api.KindCheck, Seq: 4, Digest: p.x.Book().Digest(string(make([]byte, api.MaxBytes+1)))})
	p.wantSaid("at the edges", api.Step{Kind: api.StepVote, From: 1, N: 0, View: api.MaxView, Seq: api.MaxSeq}, api.Body{Kind: api.KindPrepare, View: api.MaxView, Seq: api.MaxSeq, Digest: batch()})
	for _, s := range []api.Step{
		{N: 0, Seq: 0}, {N: 1, Seq: 0}, {N: 2, Seq: 0}, {N: 2, Seq: 1}, {N: 2, Seq: 6}, {N: 0, Seq: -1}, {N: 1, Seq: api.MaxSeq + 1}, {N: 2, Seq: api.MaxSeq + 4}, {N: 2, Seq: -4},
		{N: 0, Seq: 1, View: -1}, {N: 1, Seq: 1, View: api.MaxView + 1},
	} { // texts and batches that were not digested yet
		s.Kind, s.From, s.Text, s.Clients = api.StepVote, 1, "new", []int{101, 101}
		p.wantNothing("no such vote", s)
	}
}

// 13.2: the requests that are looked for are those that a client sent last itself, whoever sent on others behind it, and whatever is doubled.
func TestLastRequests(t *testing.T) {
	p := newPlay(t, usual(1), false, 2)
	p.must(pay(0, 5))
	p.must(api.Step{Kind: api.StepTwice, N: 3}) // one to 3, that stays behind
	p.must(api.Step{Kind: api.StepDrop, N: 3})
	for range 30 { // without 3
		p.cutOffAfter(3, 1)
		for i := range 3 {
			p.bring(i)
		}
		p.bring(100)
	}
	if p.x.Waits(0) || p.done(3) != 0 {
		t.Fatal("0 to 2 have not executed it without 3")
	}
	first := p.request(0, 1)
	say := api.Step{Kind: api.StepPropose, From: 2, To: 1, View: 2, Seq: 2, Clients: []int{100}}
	p.wantSaid("the first", say, api.Body{Kind: api.KindPropose, View: 2, Seq: 2, List: []api.Signed{first}})
	p.must(pay(0, 6))
	second := p.request(0, 2)
	p.wantSaid("the second", say, api.Body{Kind: api.KindPropose, View: 2, Seq: 2, List: []api.Signed{second}})
	at := slices.IndexFunc(p.x.Mail(), func(m api.Sent) bool { return m.To == 3 })
	p.must(api.Step{Kind: api.StepTwice, N: at})
	p.must(api.Step{Kind: api.StepDeliver, N: at})
	l := p.x.Mail()
	if m, _ := p.opened(l[len(l)-1].Bytes); m != first || l[len(l)-1].To != 0 {
		t.Fatalf("3 does not send on the first one: %+v", m)
	}
	p.wantSaid("the second, though 3 has sent on the first", say, api.Body{Kind: api.KindPropose, View: 2, Seq: 2, List: []api.Signed{second}})
	text, e := wire.PutSigned(first)
	if e != api.OK {
		t.Fatal(e)
	}
	p.must(raw(2, 1, text))
	p.wantSaid("the second, though a liar has sent the first", say, api.Body{Kind: api.KindPropose, View: 2, Seq: 2, List: []api.Signed{second}})
	forged := second
	forged.Sig = first.Sig
	text, _ = wire.PutSigned(forged)
	p.must(raw(2, 1, text))
	p.wantSaid("the second, though a liar has forged one", say, api.Body{Kind: api.KindPropose, View: 2, Seq: 2, List: []api.Signed{second}})
}

// cutOffAfter loses all that is on its way to one, but the first pieces.
func (p *play) cutOffAfter(to, first int) {
	n := 0
	for i := 0; i < p.x.Flight(); {
		if p.x.Piece(i).To == to {
			if n++; n > first {
				p.do(api.Step{Kind: api.StepDrop, N: i})
				continue
			}
		}
		i++
	}
}

// 13.2: what was sent is looked for among the last 20000 pieces of mail, whether they came, were lost, or had no room.
func TestOnlyTheLastMailIsRemembered(t *testing.T) {
	p := newPlay(t, usual(1), true, 0)
	p.must(pay(0, 5)) // four pieces, of which that to 3 is the last one
	if p.x.Remembered() != 4 {
		t.Fatalf("%d pieces are remembered, want 4", p.x.Remembered())
	}
	list := []api.Signed{p.request(0, 1)}
	p.must(api.Step{Kind: api.StepDrop}, api.Step{Kind: api.StepDeliver})
	for range cluster.MaxNet + 3 - p.x.Remembered() { // until the last one of the four is the first one that is remembered
		p.must(raw(0, 1, "noise"))
	}
	if p.x.Remembered() != cluster.MaxNet {
		t.Fatalf("%d pieces are remembered, want %d", p.x.Remembered(), cluster.MaxNet)
	}
	p.must(api.Step{Kind: api.StepTwice}, api.Step{Kind: api.StepTwice}, api.Step{Kind: api.StepTwice}) // nobody sends these
	say := api.Step{Kind: api.StepPropose, To: 1, Seq: 1, Clients: []int{100}}
	p.must(api.Step{Kind: api.StepDrop})
	p.wantSaid("among the last 20000", say, api.Body{Kind: api.KindPropose, Seq: 1, List: list})
	p.must(api.Step{Kind: api.StepDrop})
	p.wantSaid("not any more", say, api.Body{Kind: api.KindPropose, Seq: 1})
	for range 4 {
		p.must(api.Step{Kind: api.StepTick})
	}
	p.must(api.Step{Kind: api.StepDrop})
	p.wantSaid("what the client has sent again", say, api.Body{Kind: api.KindPropose, Seq: 1, List: list})
	for p.x.Flight() < cluster.MaxNet {
		p.must(api.Step{Kind: api.StepTwice})
	}
	p.must(pay(1, 6)) // there is no room
	p.must(api.Step{Kind: api.StepDrop})
	say.Clients = []int{101}
	p.wantSaid("what was lost since there was no room", say, api.Body{Kind: api.KindPropose, Seq: 1, List: []api.Signed{p.request(1, 1)}})
	if p.x.Remembered() != cluster.MaxNet {
		t.Errorf("%d pieces are remembered, want %d", p.x.Remembered(), cluster.MaxNet)
	}
}

// 13.2: a change has the last checkpoints of its number by each of Clients, in this order.
func TestChange(t *testing.T) {
	for _, mute := range []bool{false, true} {
		p := newPlay(t, usual(1), mute, 3)
		for i := range 9 {
			p.must(pay(0, i))
			p.settle()
		}
		p.calm(2)
		p.dropAll()
		w := p.audit()
		check := func(who, seq int, root string) api.Signed {
			m, e := p.x.Book().Seal(who, api.Body{Kind: api.KindCheck, Seq: seq, Digest: root})
			if e != api.OK {
				t.Fatal(e)
			}
			return m
		}
		say := func(view, seq int, who ...int) api.Step {
			return api.Step{Kind: api.StepChange, From: 3, To: 2, View: view, Seq: seq, Clients: who, N: 1, Text: "a"}
		}
		body := func(view, seq int, l ...api.Signed) api.Body {
			return api.Body{Kind: api.KindChange, View: view, Seq: seq, List: l}
		}
		for _, seq := range []int{4, 8} {
			c := []api.Signed{check(0, seq, w.roots[seq]), check(1, seq, w.roots[seq]), check(2, seq, w.roots[seq])}
			p.wantSaid("all", say(1, seq, 0, 1, 2), body(1, seq, c...))
			p.wantSaid("in their order", say(7, seq, 2, 0, 100, -1, 256, 4, 1, 2), body(7, seq, c[2], c[0], c[1], c[2]))
			p.wantSaid("none", say(api.MaxView, seq), body(api.MaxView, seq))
			if mute {
				p.wantSaid("of a mute one", say(1, seq, 3), body(1, seq))
			} else {
				p.wantSaid("of one that goes on", say(1, seq, 3), body(1, seq, check(3, seq, w.roots[seq])))
			}
			p.must(api.Step{Kind: api.StepVote, From: 3, To: 0, N: 2, Seq: seq, Text: "a lie"})
			lie := check(3, seq, p.x.Book().Digest("a lie"))
			p.wantSaid("of the liar what it said last", say(1, seq, 3, 0), body(1, seq, lie, c[0]))
			p.must(api.Step{Kind: api.StepVote, From: 3, To: 0, N: 2, Seq: seq + 8, Text: "of another number"})
			p.wantSaid("of the liar what it said last of that number", say(1, seq, 3), body(1, seq, lie))
		}
		p.wantSaid("a number that nobody has", say(1, 20, 0, 1, 2, 3), body(1, 20))
		p.wantSaid("the number 0", say(1, 0, 0, 1, 2, 3), body(1, 0))
		p.wantSaid("the highest number", say(1, api.MaxSeq, 0), body(1, api.MaxSeq))
		p.wantSaid("64 of them", say(1, 4, slices.Repeat([]int{1}, 64)...), body(1, 4, slices.Repeat([]api.Signed{check(1, 4, w.roots[4])}, 64)...))
		p.wantNothing("65 of them", say(1, 4, slices.Repeat([]int{1}, 65)...))
		p.wantNothing("no view", say(0, 4, 0))
		p.wantNothing("a view below 0", say(-1, 4, 0))
		p.wantNothing("a view above all", say(api.MaxView+1, 4, 0))
		for _, seq := range []int{1, 2, 3, 5, -4, api.MaxSeq + 4, math.MinInt} {
			p.wantNothing("no multiple of four", say(1, seq, 0))
		}
	}
}

// 13.2: a begin has the last wishes for its view by each of Clients, in this order.
func TestBegin(t *testing.T) {
	p := newPlay(t, usual(1), true, 1)
	p.must(pay(0, 5))
	p.cutOff(0) // the primary hears of nothing, and the others wish for view 1
	p.x.Round(1)
	p.dropAll()
	for range 4 {
		p.must(api.Step{Kind: api.StepTick})
	}
	wish := map[int]api.Signed{}
	for _, s := range p.x.Mail() {
		if m, b := p.opened(s.Bytes); b.Kind == api.KindChange && b.View == 1 {
			wish[m.From] = m
		}
	}
	if len(wish) != 2 {
		t.Fatalf("%d wish for view 1, want 2 and 3", len(wish))
	}
	p.dropAll()
	say := func(view int, who ...int) api.Step {
		return api.Step{Kind: api.StepBegin, From: 1, To: 2, View: view, Clients: who, Seq: 3, N: 1, Text: "a"}
	}
	body := func(view int, l ...api.Signed) api.Body {
		return api.Body{Kind: api.KindBegin, View: view, List: l}
	}
	p.wantSaid("of one", say(1, 2), body(1, wish[2]))
	p.wantSaid("in their order", say(1, 3, 100, 0, 1, -1, 256, 2, 3), body(1, wish[3], wish[2], wish[3]))
	p.wantNothing("nobody wishes so", say(1, 0, 1))
	p.wantNothing("nobody", say(1))
	p.wantNothing("another view", say(2, 2, 3))
	p.wantNothing("no view", say(0, 2, 3))
	for _, view := range []int{-1, api.MaxView + 1, math.MinInt, math.MaxInt} {
		p.wantNothing("a view that may not be", say(view, 2, 3))
	}
	p.must(api.Step{Kind: api.StepChange, From: 1, To: 0, View: 1})
	mine, e := p.x.Book().Seal(1, api.Body{Kind: api.KindChange, View: 1})
	if e != api.OK {
		t.Fatal(e)
	}
	p.wantSaid("with the liar's", say(1, 1, 2, 3), body(1, mine, wish[2], wish[3]))
	p.must(api.Step{Kind: api.StepChange, From: 1, To: 0, View: 1, Seq: 4})
	other, _ := p.x.Book().Seal(1, api.Body{Kind: api.KindChange, View: 1, Seq: 4})
	p.wantSaid("with what the liar said last", say(1, 1), body(1, other))
	p.must(api.Step{Kind: api.StepChange, From: 1, To: 0, View: 2})
	p.wantSaid("for this view", say(1, 1), body(1, other))
	p.wantSaid("64 of them", say(1, slices.Repeat([]int{2}, 64)...), body(1, slices.Repeat([]api.Signed{wish[2]}, 64)...))
	p.wantNothing("65 of them", say(1, slices.Repeat([]int{2}, 65)...))
}

// 13.2: what a liar says does something: by its proposal and its votes the others execute what they would not have.
func TestLiesCount(t *testing.T) {
	p := newPlay(t, usual(1), true, 0)
	p.must(pay(2, 5), pay(0, 6))
	p.dropAll()
	for to := 1; to <= 3; to++ {
		p.must(api.Step{Kind: api.StepPropose, From: 0, To: to, Seq: 1, Clients: []int{102, 100}})
	}
	p.x.Round(2)
	for i := 1; i <= 3; i++ {
		if p.done(i) != 0 {
			t.Fatalf("%d has executed %d already", i, p.done(i))
		}
	}
	p.x.Round(1)
	p.audit()
	want, _ := wire.Batch([]api.Signed{p.request(2, 1), p.request(0, 1)})
	for i := 1; i <= 3; i++ {
		if h := p.x.History(i); len(h) != 1 || h[0].Batch != want {
			t.Errorf("%d has executed %+v", i, h)
		}
	}
}

// A body that is too long for layer 1 is none: wishes with long proofs, as often as a list holds them.
func TestBeginThatIsTooLong(t *testing.T) {
	p := newPlay(t, usual(4), false, 1)
	for k := range 3 {
		p.must(pay(k, 1))
	}
	var l []api.Signed
	for i := range 64 {
		l = append(l, api.Signed{From: i, Body: string(make([]byte, 300))})
	}
	p.must(raw(1, 2, p.bytesBy(1, api.Body{Kind: api.KindChange, View: 1, List: l})))
	many := slices.Repeat([]int{1}, 64)
	p.wantNothing("too long", api.Step{Kind: api.StepBegin, From: 1, To: 0, View: 1, Clients: many})
	p.must(api.Step{Kind: api.StepBegin, From: 1, To: 0, View: 1, Clients: many[:40]})
}
