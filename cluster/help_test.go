package cluster_test

import (
	"fmt"
	"slices"
	"strconv"
	"testing"

	"gavel/api"
	"gavel/cluster"
	"gavel/core"
	"gavel/house"
	"gavel/merkle"
	"gavel/wire"
)

// chance is a row of numbers that looks like chance and is always the same.
func chance(seed uint32) func(n int) int {
	return func(n int) int {
		seed = seed*1664525 + 1013904223
		return int(seed>>8) % n
	}
}

// usual is a consortium that f liars can not mislead.
func usual(f int) api.Config {
	return api.Config{Faults: f, Clients: 3, Goods: 1, Patience: 2}
}

// play is a cluster, and what was done with it.
type play struct {
	t     *testing.T
	c     api.Config
	n     int
	x     *cluster.Cluster
	mute  bool
	liars []int
	asked [][]string // by clients: the texts of their requests

	played []api.Step                  // the steps so far
	also   func(s api.Step, done bool) // sees each step
	probes int                         // of the book
}

func newPlay(t *testing.T, c api.Config, mute bool, liars ...int) *play {
	t.Helper()
	x, e := cluster.New(c, liars, mute)
	if x == nil || e != api.OK {
		t.Fatalf("New(%+v, %v, %v) = %v, %d", c, liars, mute, x, e)
	}
	return &play{t: t, c: c, n: 3*c.Faults + 1, x: x, mute: mute, liars: liars, asked: make([][]string, c.Clients)}
}

// do does a step, and notes what a client asked for.
func (p *play) do(s api.Step) bool {
	ok := p.x.Do(s)
	p.played = append(p.played, s)
	if p.also != nil {
		p.also(s, ok)
	}
	if ok && s.Kind == api.StepRequest {
		op, _ := wire.PutOp(s.Op)
		p.asked[s.From] = append(p.asked[s.From], op)
	}
	return ok
}

// must does steps that have to do something.
func (p *play) must(l ...api.Step) {
	p.t.Helper()
	for _, s := range l {
		if !p.do(s) {
			p.t.Fatalf("Do(%+v) = false", s)
		}
	}
}

// pay is a client's request to be paid something.
func pay(k, amount int) api.Step {
	return api.Step{Kind: api.StepRequest, From: k, Op: api.Op{Kind: house.Pay, Amount: amount}}
}

// calm are rounds of calm.
func (p *play) calm(rounds int) {
	p.t.Helper()
	for range rounds {
		p.must(api.Step{Kind: api.StepCalm})
	}
}

// dropAll loses all that is on its way.
func (p *play) dropAll() {
	for p.do(api.Step{Kind: api.StepDrop}) {
	}
}

// cutOff loses all that is on its way to one.
func (p *play) cutOff(to int) {
	for i := p.x.Flight() - 1; i >= 0; i-- {
		if p.x.Piece(i).To == to {
			p.do(api.Step{Kind: api.StepDrop, N: i})
		}
	}
}

// bring delivers all that is on its way to one, the first first.
func (p *play) bring(to int) {
	for i := 0; i < p.x.Flight(); {
		if p.x.Piece(i).To == to {
			p.do(api.Step{Kind: api.StepDeliver, N: i})
		} else {
			i++
		}
	}
}

func (p *play) honest() []int {
	var l []int
	for i := range p.n {
		if p.x.Honest(i) {
			l = append(l, i)
		}
	}
	return l
}

// done is up to which number a replica has executed or taken over.
func (p *play) done(i int) int {
	h := p.x.History(i)
	if len(h) == 0 {
		return 0
	}
	return h[len(h)-1].Seq
}

// topView is the highest view of an honest replica.
func (p *play) topView() int {
	top := 0
	for _, i := range p.honest() {
		v, _ := p.x.View(i)
		top = max(top, v)
	}
	return top
}

// houseOf is the house that a replica's state is.
func (p *play) houseOf(i int) *house.House {
	p.t.Helper()
	l := slices.DeleteFunc(p.x.Records(i), func(r api.Record) bool { return r.Key == "chain" })
	h, e := house.Of(p.c.Clients, p.c.Goods, l)
	if e != api.OK {
		p.t.Fatalf("the state of %d is none: %d", i, e)
	}
	return h
}

// behindAll tells whether all honest replicas have executed all that was asked for.
func (p *play) behindAll() bool {
	p.t.Helper()
	for _, i := range p.honest() {
		h := p.houseOf(i)
		for k, l := range p.asked {
			if last, _ := h.Last(k); last < len(l) {
				return false
			}
		}
	}
	return true
}

func (p *play) someWaits() bool {
	for k := range p.c.Clients {
		if p.x.Waits(k) {
			return true
		}
	}
	return false
}

// truth is the house folded over all that honest replicas executed.
type truth struct {
	top     int
	chains  map[int]string
	roots   map[int]string // of multiples of four
	states  map[int][]api.Record
	replies []map[int]string // by clients and stamps
}

// fold (13.3): honest histories agree, each request in them was signed by its client, which asked for it; and what the house comes to behind them.
func (p *play) fold() truth {
	p.t.Helper()
	batches := p.batches()
	h, _ := house.New(p.c.Clients, p.c.Goods)
	w := truth{chains: map[int]string{0: ""}, roots: map[int]string{}, states: map[int][]api.Record{}, replies: make([]map[int]string, p.c.Clients)}
	for k := range w.replies {
		w.replies[k] = map[int]string{}
	}
	w.states[0] = core.Whole(h.Records(), "")
	for seq := 1; ; seq++ {
		batch, ok := batches[seq]
		if !ok {
			if len(batches) != w.top {
				p.t.Fatalf("numbers up to %d were executed, but %d of them", w.top, len(batches))
			}
			return w
		}
		p.execute(h, seq, batch, w)
		w.top = seq
		w.chains[seq] = core.Link(p.x.Book(), w.chains[seq-1], batch)
		w.states[seq] = core.Whole(h.Records(), w.chains[seq])
		if seq%api.Every == 0 {
			root, e := merkle.Root(p.x.Book(), w.states[seq])
			if e != api.OK {
				p.t.Fatal(e)
			}
			w.roots[seq] = root
		}
	}
}

// batches are what honest replicas executed, which must agree, and stand without gaps.
func (p *play) batches() map[int]string {
	p.t.Helper()
	l := map[int]string{}
	for _, i := range p.honest() {
		last := 0
		for _, d := range p.x.History(i) {
			if d.Adopted && (d.Seq <= last || d.Batch != "") || !d.Adopted && d.Seq != last+1 {
				p.t.Fatalf("replica %d: %+v behind %d", i, d, last)
			}
			last = d.Seq
			if d.Adopted {
				continue
			}
			if was, has := l[d.Seq]; has && was != d.Batch {
				p.t.Fatalf("replica %d executed %x at %d, another one %x", i, d.Batch, d.Seq, was)
			}
			l[d.Seq] = d.Batch
		}
	}
	return l
}

// execute does a batch's requests in the house, each of which must be one that was asked for.
func (p *play) execute(h *house.House, seq int, batch string, w truth) {
	p.t.Helper()
	l, e := wire.OfBatch(batch)
	if e != api.OK {
		p.t.Fatalf("%x at %d is no batch: %d", batch, seq, e)
	}
	for _, m := range l {
		b, e := p.x.Book().Open(m)
		if e != api.OK || b.Kind != api.KindRequest || m.From != api.FirstClient+b.Client || b.Client >= p.c.Clients {
			p.t.Fatalf("%+v at %d is no request: %d", m, seq, e)
		}
		if b.Stamp > len(p.asked[b.Client]) || p.asked[b.Client][b.Stamp-1] != b.Text {
			p.t.Fatalf("%+v at %d was not asked for", b, seq)
		}
		if reply, e := h.Do(b.Client, b.Stamp, b.Text); e == api.OK {
			w.replies[b.Client][b.Stamp] = reply
		}
	}
}

// audit (13.3): all that honest replicas, clients and proofs tell is so.
func (p *play) audit() truth {
	p.t.Helper()
	w := p.fold()
	for _, i := range p.honest() {
		for _, d := range p.x.History(i) {
			if d.Chain != w.chains[d.Seq] || d.Root != w.roots[d.Seq] {
				p.t.Fatalf("replica %d: %+v, want the chain %x and the root %x", i, d, w.chains[d.Seq], w.roots[d.Seq])
			}
		}
		if got, want := p.x.Records(i), w.states[p.done(i)]; !slices.Equal(got, want) {
			p.t.Fatalf("replica %d at %d: %q, want %q", i, p.done(i), got, want)
		}
	}
	p.auditAnswers(w)
	p.auditLights(w)
	return w
}

func (p *play) auditAnswers(w truth) {
	p.t.Helper()
	for k := range p.c.Clients {
		l := p.x.Answers(k)
		want := len(p.asked[k])
		if p.x.Waits(k) {
			want--
		}
		if len(l) != want {
			p.t.Fatalf("client %d has %d answers, want %d", k, len(l), want)
		}
		for j, a := range l {
			if text, ok := w.replies[k][j+1]; a.Stamp != j+1 || a.Text != text || !ok {
				p.t.Fatalf("client %d: answer %+v, want %x to %d", k, a, text, j+1)
			}
		}
	}
}

func (p *play) auditLights(w truth) {
	p.t.Helper()
	l, _ := p.x.Lights()
	for _, s := range l {
		state, ok := w.states[s.Seq]
		value, has := valueAt(state, s.Key)
		if !ok || s.Seq%api.Every != 0 || s.Seq == 0 || value != s.Value || has != s.Has {
			p.t.Fatalf("a proof shows %+v, want %q, %v", s, value, has)
		}
	}
}

// valueAt is what records have at a key.
func valueAt(l []api.Record, key string) (string, bool) {
	i := slices.IndexFunc(l, func(r api.Record) bool { return r.Key == key })
	if i < 0 {
		return "", false
	}
	return l[i].Value, true
}

// settle (13.5): in calm all that is asked for is answered, and executed by all honest replicas, within the bound; how many rounds it took.
func (p *play) settle() int {
	p.t.Helper()
	bound := cluster.Bound(p.c, p.topView())
	for n := 0; ; n++ {
		if !p.someWaits() && p.behindAll() {
			return n
		}
		if n == bound {
			p.t.Fatalf("not behind all in %d rounds of calm", n)
		}
		p.must(api.Step{Kind: api.StepCalm})
	}
}

// bytesBy are the bytes of a body signed by somebody.
func (p *play) bytesBy(who int, b api.Body) string {
	p.t.Helper()
	m, e := p.x.Book().Seal(who, b)
	if e != api.OK {
		p.t.Fatalf("Seal(%d, %+v) = %d", who, b, e)
	}
	s, e := wire.PutSigned(m)
	if e != api.OK {
		p.t.Fatalf("PutSigned(%+v) = %d", m, e)
	}
	return s
}

// opened is a message out of its bytes, which must be one.
func (p *play) opened(s string) (api.Signed, api.Body) {
	p.t.Helper()
	m, e := wire.OfSigned(s)
	if e != api.OK {
		p.t.Fatalf("%x is no message: %d", s, e)
	}
	b, e := p.x.Book().Open(m)
	if e != api.OK {
		p.t.Fatalf("%+v does not open: %d", m, e)
	}
	return m, b
}

// raw is a liar's step that sends bytes.
func raw(from, to int, text string) api.Step {
	return api.Step{Kind: api.StepRaw, From: from, To: to, Text: text}
}

// filled is a play with so much mail on its way from the liar 0, each piece its own noise, to the replicas in turn.
func filled(t *testing.T, n int) *play {
	t.Helper()
	p := newPlay(t, usual(1), true, 0)
	for i := range n {
		p.must(raw(0, i%4, noise(i)))
	}
	return p
}

func noise(i int) string { return "noise " + strconv.Itoa(i) }

// wantMail: these noises are on their way, in order.
func (p *play) wantMail(what string, want ...int) {
	p.t.Helper()
	l := p.x.Mail()
	ok := len(l) == len(want) && p.x.Flight() == len(want)
	for i := range want {
		ok = ok && l[i].Bytes == noise(want[i]) && l[i].To == want[i]%4
	}
	if !ok {
		p.t.Errorf("%s: %d on their way, %v, want %v", what, p.x.Flight(), l, want)
	}
}

// wantNothing: a step does nothing, also not to the book.
func (p *play) wantNothing(what string, s api.Step) {
	p.t.Helper()
	before, digests, signatures := p.picture(), p.numbered(), p.signed()
	if p.x.Do(s) {
		p.t.Errorf("%s: Do(%+v) = true", what, s)
	}
	if after := p.picture(); after != before {
		p.t.Errorf("%s: Do(%+v): %s, then %s", what, s, before, after)
	}
	if p.numbered() != digests+1 || p.signed() != signatures+1 {
		p.t.Errorf("%s: Do(%+v) lets the book number something", what, s)
	}
}

// numbered is how many texts the book has numbered, with one more, which is new.
func (p *play) numbered() int {
	p.probes++
	n, _ := strconv.ParseInt(fmt.Sprintf("%x", p.x.Book().Digest("probe "+strconv.Itoa(p.probes))), 16, 64)
	return int(n)
}

// signed is how many signatures the book has given, with one more, which is new.
func (p *play) signed() int {
	p.probes++
	s, _ := p.x.Book().Sign(api.MaxWho, "probe "+strconv.Itoa(p.probes))
	n, _ := strconv.ParseInt(fmt.Sprintf("%x", s[1:]), 16, 64)
	return int(n)
}

// picture is all that a cluster tells, and what is on its way.
func (p *play) picture() string {
	x := p.x
	l, refused := x.Lights()
	s := fmt.Sprint(x.Time(), x.Flight(), l, refused, x.Mail(), x.Remembered())
	for i := range p.n {
		s += p.pictureOf(i) + fmt.Sprint(x.Drops(i))
	}
	for k := range p.c.Clients {
		s += fmt.Sprint(x.Answers(k), x.Waits(k))
	}
	return s
}

// pictureOf is all that a replica tells but its drops.
func (p *play) pictureOf(i int) string {
	view, begun := p.x.View(i)
	return fmt.Sprint(view, begun, p.x.History(i), p.x.Records(i))
}
