package core_test

import (
	"fmt"
	"slices"
	"testing"

	"gavel/api"
	"gavel/authn"
	"gavel/core"
	"gavel/house"
	"gavel/wire"
)

// chance is a row of numbers that looks like chance and is always the same.
func chance(seed uint32) func(n int) int {
	return func(n int) int {
		seed = seed*1664525 + 1013904223
		return int(seed>>8) % n
	}
}

// mail is bytes on their way.
type mail struct {
	to    int
	bytes string
}

// spoken is a message that somebody sent, opened.
type spoken struct {
	m api.Signed
	b api.Body
}

// vow is what an honest replica may say but once.
type vow struct{ who, kind, view, seq int }

// world is a consortium, its network, and what was seen of both.
type world struct {
	t      *testing.T
	c      api.Config
	n      int
	book   *authn.Book
	all    []*core.Replica
	liar   []bool
	mute   bool // liars take nothing, and have no ticks
	secret bool // the book is one of secrets, which does not tell who signed what
	asleep int  // to whom all mail is lost; -1: nobody
	net    []mail
	seen   []spoken // all that was sent, by whomever, each once
	known  map[api.Signed]int
	vows   map[vow]string
	lawful map[string]int // the texts of requests that clients signed
	stamps []int
	told   []reply
	dice   func(int) int
}

// reply is what a replica answered to a client.
type reply struct {
	who, client, stamp int
	text               string
}

func newWorld(t *testing.T, c api.Config, liars ...int) *world {
	t.Helper()
	x := &world{t: t, c: c, n: 3*c.Faults + 1, book: authn.NewBook(), known: map[api.Signed]int{}, vows: map[vow]string{}, lawful: map[string]int{}, stamps: make([]int, c.Clients), dice: chance(1), asleep: -1}
	x.liar = make([]bool, x.n)
	for _, i := range liars {
		x.liar[i] = true
	}
	for i := range x.n {
		r, e := core.New(c, i, x.book)
		if r == nil || e != api.OK {
			t.Fatalf("New(%+v, %d) = %v, %d", c, i, r, e)
		}
		x.all = append(x.all, r)
	}
	return x
}

// four is a consortium of four honest replicas.
func four(t *testing.T) *world {
	t.Helper()
	return newWorld(t, api.Config{Faults: 1, Clients: 3, Goods: 1, Patience: 3})
}

func (x *world) quorum() int { return 2*x.c.Faults + 1 }

// laid is a message's bytes.
func laid(t *testing.T, m api.Signed) string {
	t.Helper()
	s, e := wire.PutSigned(m)
	if e != api.OK {
		t.Fatalf("PutSigned(%+v) = %d", m, e)
	}
	return s
}

// by is a body signed by somebody.
func (x *world) by(who int, b api.Body) api.Signed {
	x.t.Helper()
	m, e := x.book.Seal(who, b)
	if e != api.OK {
		x.t.Fatalf("Seal(%d, %+v) = %d", who, b, e)
	}
	return m
}

// bytesBy are the bytes of a body signed by somebody.
func (x *world) bytesBy(who int, b api.Body) string {
	x.t.Helper()
	return laid(x.t, x.by(who, b))
}

// op is the bytes of some request of the house.
func op(t *testing.T, o api.Op) string {
	t.Helper()
	s, e := wire.PutOp(o)
	if e != api.OK {
		t.Fatalf("PutOp(%+v) = %d", o, e)
	}
	return s
}

// ask is a client's request to be paid something, under a stamp.
func (x *world) ask(client, stamp int) api.Signed {
	x.t.Helper()
	return x.askFor(client, stamp, op(x.t, api.Op{Kind: house.Pay, Amount: 10*client + stamp}))
}

func (x *world) askFor(client, stamp int, text string) api.Signed {
	x.t.Helper()
	m := x.by(api.FirstClient+client, api.Body{Kind: api.KindRequest, Client: client, Stamp: stamp, Text: text})
	x.lawful[laid(x.t, m)] = 1
	x.note(m)
	return m
}

// batch is the bytes of a batch, and their digest.
func (x *world) batch(l ...api.Signed) (text, digest string) {
	x.t.Helper()
	s, e := wire.Batch(l)
	if e != api.OK {
		x.t.Fatalf("Batch(%+v) = %d", l, e)
	}
	return s, x.book.Digest(s)
}

// opened is a message out of its bytes, which must be one.
func (x *world) opened(s string) spoken {
	x.t.Helper()
	m, e := wire.OfSigned(s)
	if e != api.OK {
		x.t.Fatalf("%x is no message: %d", s, e)
	}
	b, e := x.book.Open(m)
	if e != api.OK {
		x.t.Fatalf("%+v does not open: %d", m, e)
	}
	return spoken{m, b}
}

// note keeps a message that was sent, once.
func (x *world) note(m api.Signed) {
	if _, has := x.known[m]; has {
		return
	}
	x.known[m] = len(x.seen)
	b, _ := x.book.Open(m)
	x.seen = append(x.seen, spoken{m, b})
}

// post lays mail on its way.
func (x *world) post(to int, s string) { x.net = append(x.net, mail{to, s}) }

// toAll lays a message on its way to all replicas.
func (x *world) toAll(m api.Signed) {
	for i := range x.n {
		x.post(i, laid(x.t, m))
	}
}

// give hands bytes to a replica, and what it sends goes on its way.
func (x *world) give(to int, s string) []api.Sent {
	x.t.Helper()
	return x.went(to, x.all[to].Receive(s))
}

// tick is a tick of one.
func (x *world) tick(i int) []api.Sent {
	x.t.Helper()
	if x.liar[i] && x.mute {
		return nil
	}
	return x.went(i, x.all[i].Tick())
}

// went looks at what a replica sends, and lays it on its way.
func (x *world) went(from int, l []api.Sent) []api.Sent {
	x.t.Helper()
	for _, s := range l {
		o := x.opened(s.Bytes)
		x.wantSent(from, s, o)
		x.note(o.m)
		if s.To < x.n {
			x.post(s.To, s.Bytes)
		}
		if !x.liar[from] {
			x.swear(from, s, o)
		}
		if o.b.Kind == api.KindReply && !x.liar[from] {
			x.told = append(x.told, reply{from, o.b.Client, o.b.Stamp, o.b.Text})
		}
	}
	return l
}

// wantSent (11.3): what is sent is the sender's own, but a request that is sent on to the primary, and it goes to whom it may.
func (x *world) wantSent(from int, s api.Sent, o spoken) {
	x.t.Helper()
	view, _ := x.all[from].View()
	switch o.b.Kind {
	case api.KindRequest:
		if o.m.From != api.FirstClient+o.b.Client || s.To == from {
			x.t.Fatalf("%d sends on %+v to %d", from, o, s.To)
		}
	case api.KindReply, api.KindProof:
		if o.m.From != from || s.To < api.FirstClient || s.To >= api.FirstClient+x.c.Clients {
			x.t.Fatalf("%d in view %d sends %+v to %d", from, view, o, s.To)
		}
	case api.KindAsk:
		x.t.Fatalf("%d asks %+v", from, o)
	default:
		if o.m.From != from || s.To < 0 || s.To >= x.n || s.To == from {
			x.t.Fatalf("%d in view %d sends %+v to %d", from, view, o, s.To)
		}
	}
}

// swear (11.4): an honest replica says nothing that goes against what it said, and commits what a quorum prepared.
func (x *world) swear(who int, s api.Sent, o spoken) {
	x.t.Helper()
	switch o.b.Kind {
	case api.KindPropose, api.KindPrepare, api.KindCommit, api.KindCheck, api.KindBegin, api.KindChange:
	default:
		return
	}
	v := vow{who, o.b.Kind, o.b.View, o.b.Seq}
	if o.b.Kind == api.KindChange {
		v.seq = 0
	}
	if was, has := x.vows[v]; has && was != o.m.Body {
		x.t.Fatalf("%d said %x, then %x", who, was, o.m.Body)
	}
	x.vows[v] = o.m.Body
	if o.b.Kind == api.KindCommit && !x.secret && x.signed(api.KindPrepare, o.b.View, o.b.Seq, o.b.Digest) < x.quorum() {
		x.t.Fatalf("%d commits %+v, which %d prepared", who, o.b, x.signed(api.KindPrepare, o.b.View, o.b.Seq, o.b.Digest))
	}
}

// signed is how many replicas ever signed such a vote.
func (x *world) signed(kind, view, seq int, digest string) int {
	s, e := wire.Bytes(api.Body{Kind: kind, View: view, Seq: seq, Digest: digest})
	if e != api.OK {
		x.t.Fatalf("no vote of %q: %d", digest, e)
	}
	n := 0
	for who := range x.n {
		if x.book.Issued(who, s) {
			n++
		}
	}
	return n
}

// take takes a piece of mail off its way.
func (x *world) take(i int) mail {
	s := x.net[i]
	x.net = slices.Delete(x.net, i, i+1)
	return s
}

// deliver hands over a piece of mail that is off its way.
func (x *world) deliver(s mail) {
	x.t.Helper()
	if x.liar[s.to] && x.mute || s.to == x.asleep {
		return
	}
	x.give(s.to, s.bytes)
}

// sweep delivers all that is on its way now.
func (x *world) sweep() {
	x.t.Helper()
	now := x.net
	x.net = nil
	for _, s := range now {
		x.deliver(s)
	}
}

// round is a tick of all, and delivery of all, three times over: there is calm, and nobody sleeps.
func (x *world) round() {
	x.t.Helper()
	x.asleep = -1
	for i := range x.n {
		x.tick(i)
	}
	for range 3 {
		x.sweep()
	}
}

// honest are the replicas that do not lie.
func (x *world) honest() []int {
	var l []int
	for i, lies := range x.liar {
		if !lies {
			l = append(l, i)
		}
	}
	return l
}

// has tells whether a replica has executed a client's request, or a later one.
func (x *world) has(who, client, stamp int) bool {
	h, e := house.Of(x.c.Clients, x.c.Goods, without(x.all[who].Records()))
	if e != api.OK {
		x.t.Fatalf("the state of %d is none: %d", who, e)
	}
	last, _ := h.Last(client)
	return last >= stamp
}

// without are a state's records without the chain.
func without(l []api.Record) []api.Record {
	return slices.DeleteFunc(slices.Clone(l), func(r api.Record) bool { return r.Key == "chain" })
}

// chainOf is a state's chain.
func chainOf(t *testing.T, l []api.Record) string {
	t.Helper()
	at := slices.IndexFunc(l, func(r api.Record) bool { return r.Key == "chain" })
	if at < 0 {
		t.Fatalf("there is no chain in %+v", l)
	}
	return l[at].Value
}

// picture is all that a replica tells, but its drops.
type picture struct {
	view    int
	begun   bool
	done    int
	low     int
	root    string
	history string
	records string
}

func pictureOf(r *core.Replica) picture {
	var p picture
	p.view, p.begun = r.View()
	p.done, p.low, p.root = r.Done(), r.Low(), r.Root()
	p.history, p.records = fmt.Sprintf("%+v", r.History()), fmt.Sprintf("%+v", r.Records())
	return p
}
