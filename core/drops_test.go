package core_test

import (
	"strings"
	"testing"

	"gavel/api"
	"gavel/wire"
)

// atSix is four replicas, of which 1 has executed six numbers, four of them stable, and has votes for the seventh one.
func atSix(t *testing.T) *world {
	t.Helper()
	x := four(t)
	x.upTo(1, 6, true)
	x.give(1, x.proposal(0, 7, x.ask(0, 7)))
	return x
}

// 11.3: what is no message.
func TestNoMessage(t *testing.T) {
	x := atSix(t)
	_, digest := x.batch(x.ask(0, 7))
	m := x.by(2, vote(api.KindPrepare, 0, 7, digest))
	s := laid(t, m)
	for i := range len(s) {
		x.wantDropped("a beginning", 1, s[:i])
	}
	x.wantDropped("a byte more", 1, s+"x")
	x.wantDropped("too much", 1, strings.Repeat("x", api.MaxBytes+1))
	for i := range len(s) * 8 {
		c := []byte(s)
		c[i/8] ^= 1 << (i % 8)
		x.wantDropped("a bit is another one", 1, string(c))
	}
	x.wantTaken("as it was", 1, s)
}

// 11.3: signatures of another text, or of another signer, and bodies that may not be.
func TestNotSigned(t *testing.T) {
	x := atSix(t)
	_, digest := x.batch(x.ask(0, 7))
	b := vote(api.KindPrepare, 0, 7, digest)
	m := x.by(2, b)
	other := x.by(2, vote(api.KindCommit, 0, 7, digest))
	x.wantDropped("a signature of another text", 1, laid(t, api.Signed{From: 2, Body: m.Body, Sig: other.Sig}))
	x.wantDropped("a signature of another signer", 1, laid(t, api.Signed{From: 3, Body: m.Body, Sig: m.Sig}))
	x.wantDropped("another one's signature", 1, laid(t, api.Signed{From: 2, Body: m.Body, Sig: x.by(3, b).Sig}))
	x.wantDropped("no signature", 1, laid(t, api.Signed{From: 2, Body: m.Body}))
	x.wantDropped("a signature that nobody gave", 1, laid(t, api.Signed{From: 2, Body: m.Body, Sig: "s\x00\x00\x00\x00\x00\x0f\xff\xff"}))
	for _, body := range []string{"", "x", m.Body + "x", m.Body[:len(m.Body)-1], "\x0e" + m.Body[1:], "\x00" + m.Body[1:], "\x05" + m.Body[1:], "\x01" + m.Body[1:], strings.Repeat("x", 999)} {
		sig, e := x.book.Sign(2, body)
		if _, wrong := wire.Of(body); e != api.OK || wrong == api.OK {
			t.Fatalf("%x is a body", body)
		}
		x.wantDropped("a body that may not be", 1, laid(t, api.Signed{From: 2, Body: body, Sig: sig}))
	}
	x.wantTaken("as it was", 1, laid(t, m))
}

// bodies are one of each kind that a replica may say to one behind six numbers.
func (x *world) bodies() map[int]api.Body {
	x.t.Helper()
	m := x.ask(0, 7)
	_, digest := x.batch(m)
	root := x.twin(8).Root()
	wish := x.wish(1, 4, x.signedBy(api.Body{Kind: api.KindCheck, Seq: 4, Digest: x.all[1].History()[3].Root}, 0, 2, 3))
	return map[int]api.Body{
		api.KindPropose: {Kind: api.KindPropose, Seq: 8, List: []api.Signed{m}},
		api.KindPrepare: vote(api.KindPrepare, 0, 7, digest),
		api.KindCommit:  vote(api.KindCommit, 0, 7, digest),
		api.KindCheck:   {Kind: api.KindCheck, Seq: 8, Digest: root},
		api.KindChange:  wish,
		api.KindBegin:   x.begin(4, x.signedBy(x.wish(4, 0, nil), 0, 2, 3)...),
		api.KindStatus:  {Kind: api.KindStatus, Client: 1},
		api.KindState:   x.stateOf(8, x.twin(8).Records(), 0, 2, 3),
		api.KindKept:    x.keptOf(0, 8, []api.Signed{m}, 0, 2, 3),
	}
}

// 11.3: who may not say what. Each body would be taken, if a replica said it.
func TestWhoMaySay(t *testing.T) {
	x := atSix(t)
	for kind, b := range x.bodies() {
		for _, who := range []int{1, 4, 5, 99, 100, 101, 102, 103, 255} {
			x.wantDropped("who may not say it", 1, x.bytesBy(who, b))
		}
		y := atSix(t)
		y.wantTaken("who may say it", 1, y.bytesBy(0, y.bodies()[kind]))
	}
	request := api.Body{Kind: api.KindRequest, Client: 1, Stamp: 1, Text: "x"}
	ask := api.Body{Kind: api.KindAsk, Client: 1, Text: "now"}
	for _, who := range []int{0, 1, 2, 3, 4, 99, 100, 102, 103, 255} {
		x.wantDropped("another one's request", 1, x.bytesBy(who, request))
		x.wantDropped("another one asks", 1, x.bytesBy(who, ask))
	}
	request.Client, ask.Client = 3, 3
	x.wantDropped("a request of no client", 1, x.bytesBy(103, request))
	x.wantDropped("no client asks", 1, x.bytesBy(103, ask))
	reply := api.Body{Kind: api.KindReply, Client: 1, Stamp: 1, Text: "\x00\x00"}
	proof := x.stateOf(4, x.all[1].Records(), 0, 2)
	proof.Kind = api.KindProof
	for _, who := range []int{0, 1, 2, 3, 100, 101} {
		x.wantDropped("a reply", 1, x.bytesBy(who, reply))
		x.wantDropped("a proof", 1, x.bytesBy(who, proof))
	}
	x.wantTaken("its own request", 1, x.bytesBy(101, api.Body{Kind: api.KindRequest, Client: 1, Stamp: 1, Text: "x"}))
	x.wantTaken("it asks itself", 1, x.bytesBy(101, api.Body{Kind: api.KindAsk, Client: 1, Text: "now"}))
}

// 11.3: what is outside of the window. At its edges it is taken.
func TestOutsideOfWindow(t *testing.T) {
	x := atSix(t)
	m := x.ask(0, 7)
	_, digest := x.batch(m)
	for _, seq := range []int{1, 3, 4, 13, 14, 1000, api.MaxSeq} {
		x.wantDropped("a proposal", 1, x.proposal(0, seq, m))
		x.wantDropped("a prepare", 1, x.bytesBy(2, vote(api.KindPrepare, 0, seq, digest)))
		x.wantDropped("a commit", 1, x.bytesBy(2, vote(api.KindCommit, 0, seq, digest)))
		x.wantDropped("a committed batch", 1, x.bytesBy(2, x.keptOf(0, seq, []api.Signed{m}, 0, 2, 3)))
	}
	x.wantDropped("a checkpoint", 1, x.bytesBy(2, api.Body{Kind: api.KindCheck, Seq: 4, Digest: "r"}))
	x.wantDropped("a state", 1, x.bytesBy(2, x.stateOf(4, x.all[1].Records(), 0, 2, 3)))
	for _, seq := range []int{5, 12} {
		x.wantTaken("a prepare", 1, x.bytesBy(3, vote(api.KindPrepare, 0, seq, digest)))
		x.wantTaken("a commit", 1, x.bytesBy(3, vote(api.KindCommit, 0, seq, digest)))
	}
	x.wantTaken("a proposal", 1, x.proposal(0, 12, m))
	x.wantTaken("a committed batch", 1, x.bytesBy(2, x.keptOf(0, 12, []api.Signed{m}, 0, 2, 3)))
	x.wantTaken("a checkpoint", 1, x.bytesBy(2, api.Body{Kind: api.KindCheck, Seq: 8, Digest: "r"}))
}

// 11.3: what is outside of the view, in one that has begun and in one that is wished for.
func TestOutsideOfView(t *testing.T) {
	x := atSix(t)
	m := x.ask(0, 7)
	_, digest := x.batch(m)
	views := func(what string, who int, l ...int) {
		t.Helper()
		for _, view := range l {
			x.wantDropped(what+": a proposal", who, x.proposal(view, 8, m))
			x.wantDropped(what+": a prepare", who, x.bytesBy(0, vote(api.KindPrepare, view, 8, digest)))
			x.wantDropped(what+": a commit", who, x.bytesBy(0, vote(api.KindCommit, view, 8, digest)))
		}
	}
	views("in view 0", 2, 1, 2, 3, 4, 1000, api.MaxView)
	w := x.wish(5, 0, nil)
	x.wantTaken("a wish", 2, x.bytesBy(0, w))
	x.wantTaken("a wish", 2, x.bytesBy(3, w))
	x.wantView("as two wish for it", 2, 5, false)
	views("ahead of view 5", 2, 0, 1, 4, 6, 1000)
	x.wantDropped("a proposal ahead of the beginning", 2, x.proposal(5, 1, m))
	for _, view := range []int{1, 3, 4} {
		x.wantDropped("a wish for a lower view", 2, x.bytesBy(1, x.wish(view, 0, nil)))
		x.wantDropped("a lower view's beginning", 2, x.bytesBy(view%4, x.begin(view, x.signedBy(x.wish(view, 0, nil), 0, 1, 3)...)))
	}
	// Of the view itself votes are taken ahead of its beginning.
	x.wantTaken("a prepare ahead", 2, x.bytesBy(0, vote(api.KindPrepare, 5, 8, digest)))
	x.wantTaken("the beginning", 2, x.bytesBy(1, x.begin(5, x.signedBy(w, 0, 1, 3)...)))
	x.wantView("behind the beginning", 2, 5, true)
	views("in view 5", 2, 0, 4, 6)
	for _, view := range []int{1, 5} {
		x.wantDropped("a wish for what has begun", 2, x.bytesBy(1, x.wish(view, 0, nil)))
	}
	x.wantDropped("another beginning", 2, x.bytesBy(1, x.begin(5, x.signedBy(w, 0, 1, 2)...)))
	x.wantTaken("a proposal", 2, x.proposal(5, 1, m))
}

// 11.3: a proposal by who does not lead, and the primary's with what is no request.
func TestWrongProposals(t *testing.T) {
	x := atSix(t)
	m := x.ask(0, 8)
	b := api.Body{Kind: api.KindPropose, Seq: 8, List: []api.Signed{m}}
	for _, who := range []int{2, 3} {
		x.wantDropped("who does not lead", 1, x.bytesBy(who, b))
	}
	spoiled := m
	spoiled.Sig = x.ask(0, 9).Sig
	for what, l := range map[string][]api.Signed{
		"a signature of another one":   {spoiled},
		"behind a right one":           {m, spoiled},
		"another client signed it":     x.signedBy(api.Body{Kind: api.KindRequest, Client: 1, Stamp: 1}, 100),
		"a replica signed it":          x.signedBy(api.Body{Kind: api.KindRequest, Stamp: 1}, 0),
		"no such client":               x.signedBy(api.Body{Kind: api.KindRequest, Client: 3, Stamp: 1}, 103),
		"a client asks, and not wants": x.signedBy(api.Body{Kind: api.KindAsk, Text: "now"}, 100),
		"a vote":                       x.signedBy(vote(api.KindPrepare, 0, 8, "d"), 0),
	} {
		x.wantDropped(what, 1, x.bytesBy(0, api.Body{Kind: api.KindPropose, Seq: 8, List: l}))
	}
	x.wantTaken("a right one", 1, x.bytesBy(0, b))
}

// 11.3: each message once more at once changes nothing but the drops. The run has messages of all kinds that replicas take.
func TestOnceMore(t *testing.T) {
	x := newWorld(t, api.Config{Faults: 1, Clients: 3, Goods: 1, Patience: 2})
	kinds := map[int]int{}
	sweep := func() {
		now := x.net
		x.net = nil
		for _, s := range now {
			if x.liar[s.to] {
				continue
			}
			x.deliver(s)
			x.onceMore(s)
			kinds[x.opened(s.bytes).b.Kind]++
		}
	}
	// 0 leads and falls silent; 3 hears nothing for a time.
	x.mute = true
	for i := range 70 {
		x.liar[0], x.liar[3] = 12 <= i && i < 30, 40 <= i && i < 60
		if i%3 == 0 {
			x.stamps[i%2]++
			x.toAll(x.ask(i%2, x.stamps[i%2]))
			x.toAll(x.by(102, api.Body{Kind: api.KindAsk, Client: 2, Text: "now"}))
		}
		for j := range x.n {
			x.tick(j)
		}
		for range 3 {
			sweep()
		}
	}
	for _, kind := range []int{1, 2, 3, 4, 5, 6, 7, 8, 9, 11, 12} {
		if kinds[kind] < 2 {
			t.Errorf("%d messages of kind %d came twice", kinds[kind], kind)
		}
	}
	x.audit()
}

// 11.3: what comes once more counts as dropped, where it is not answered.
func TestOnceMoreDrops(t *testing.T) {
	for kind := range atSix(t).bodies() {
		x := atSix(t)
		b := x.bodies()[kind]
		x.wantTaken("at first", 1, x.bytesBy(0, b))
		if kind == api.KindStatus { // each is answered, as what was sent for it may be lost
			continue
		}
		x.wantDropped("once more", 1, x.bytesBy(0, b))
	}
	x := atSix(t)
	m := laid(t, x.ask(1, 1))
	x.wantTaken("a request", 1, m)
	x.wantDropped("a request once more", 1, m)
}
