package core_test

import (
	"slices"
	"testing"

	"gavel/api"
	"gavel/core"
	"gavel/house"
	"gavel/merkle"
	"gavel/wire"
)

// status hands a replica what another one tells of itself: what is sent for it, all to that one.
func (x *world) status(to, from int, b api.Body) []api.Sent {
	x.t.Helper()
	b.Kind = api.KindStatus
	l := x.wantTaken("a status", to, x.bytesBy(from, b))
	for _, s := range l {
		if s.To != from {
			x.t.Errorf("kinds %v are sent to %d", x.kinds(l), s.To)
		}
	}
	return l
}

// seqs are the numbers of what of a kind was sent.
func (x *world) seqs(l []api.Sent, kind int) []int {
	x.t.Helper()
	var out []int
	for _, o := range x.letters(l, kind) {
		out = append(out, o.b.Seq)
	}
	return out
}

// How it goes, 7: what is sent to who lacks a stable state, and batches above it. It is just what lets them follow.
func TestSendsStateAndKept(t *testing.T) {
	x := four(t)
	x.upTo(1, 7, true)
	for _, c := range []struct {
		b     api.Body
		state bool
		kept  []int
	}{
		{api.Body{}, true, []int{5, 6, 7}},
		{api.Body{Seq: 3, Client: 1}, true, []int{5, 6, 7}},
		{api.Body{Seq: 4, Client: 1}, true, []int{5, 6, 7}},
		{api.Body{Seq: 6, Client: 1}, true, []int{7}},
		{api.Body{Seq: 6, Client: 1, Stamp: 4}, false, []int{7}},
		{api.Body{Seq: 5, Client: 1, Stamp: 4, View: 9}, false, []int{6, 7}},
		{api.Body{Seq: 7, Client: 1, Stamp: 4}, false, nil},
		{api.Body{Seq: 100, Client: 1, Stamp: 100}, false, nil},
		{api.Body{Seq: api.MaxSeq, Client: 1, Stamp: api.MaxStamp, View: api.MaxView}, false, nil},
	} {
		l := x.status(1, 3, c.b)
		if states := x.letters(l, api.KindState); len(states) > 1 || (len(states) == 1) != c.state || !slices.Equal(x.seqs(l, api.KindKept), c.kept) {
			t.Errorf("to %+v states %+v and batches %v are sent, want %v, %v", c.b, states, x.seqs(l, api.KindKept), c.state, c.kept)
		}
	}
	// What was sent to the first one lets it follow.
	for _, s := range x.status(1, 3, api.Body{Client: 1}) {
		x.give(3, s.Bytes)
	}
	if a, b := x.all[1], x.all[3]; b.Done() != 7 || b.Low() != 4 || a.Root() != b.Root() {
		t.Errorf("behind that %d is executed, %d is stable", b.Done(), b.Low())
	}
	// And that one can hand it on.
	for _, s := range x.status(3, 2, api.Body{Client: 1}) {
		x.give(2, s.Bytes)
	}
	if a, b := x.all[1], x.all[2]; b.Done() != 7 || b.Low() != 4 || a.Root() != b.Root() {
		t.Errorf("behind that %d is executed, %d is stable", b.Done(), b.Low())
	}
}

// How it goes, 7: what the bodies say that are sent.
func TestWhatIsSent(t *testing.T) {
	x := four(t)
	x.upTo(1, 5, true)
	l := x.status(1, 3, api.Body{Client: 1})
	fourth := x.twin(4)
	want := x.stateOf(4, fourth.Records(), 0, 1, 2)
	if o := x.letters(l, api.KindState); len(o) != 1 || !sameBody(o[0].b, want) {
		t.Errorf("the state is %+v, want %+v", o, want)
	}
	want = x.keptOf(0, 5, []api.Signed{x.ask(0, 5)}, 0, 1, 2)
	if o := x.letters(l, api.KindKept); len(o) != 1 || !sameBody(o[0].b, want) {
		t.Errorf("the batch is %+v, want %+v", o, want)
	}
	want = api.Body{Kind: api.KindCheck, Seq: 4, Digest: fourth.Root()}
	if o := x.letters(l, api.KindCheck); len(o) != 1 || !sameBody(o[0].b, want) {
		t.Errorf("the checkpoint is %+v, want %+v", o, want)
	}
}

// How it goes, 7: proposals and votes of the view are sent again to who has not executed that much.
func TestSendsVotes(t *testing.T) {
	x := four(t)
	for stamp := 1; stamp <= 3; stamp++ {
		x.give(0, laid(t, x.ask(0, stamp)))
		x.give(2, x.proposal(0, stamp, x.ask(0, stamp)))
	}
	for _, who := range []int{0, 2} {
		_, digest := x.batch(x.ask(0, 2))
		x.votes(who, vote(api.KindPrepare, 0, 2, digest), 2-who, 3)
		_, digest = x.batch(x.ask(0, 1))
		x.votes(who, vote(api.KindPrepare, 0, 1, digest), 2-who, 3)
		x.votes(who, vote(api.KindCommit, 0, 1, digest), 2-who, 3)
	}
	l := x.status(0, 1, api.Body{Client: 1})
	for kind, want := range map[int][]int{api.KindKept: {1}, api.KindPropose: {2, 3}, api.KindPrepare: {2, 3}, api.KindCommit: {2}} {
		if got := x.seqs(l, kind); !slices.Equal(got, want) {
			t.Errorf("of kind %d the numbers %v are sent by the primary, want %v", kind, got, want)
		}
	}
	for _, s := range l {
		x.give(1, s.Bytes)
	}
	if x.all[1].Done() != 1 || x.all[1].Drops() != 0 {
		t.Errorf("%d is executed, %d dropped", x.all[1].Done(), x.all[1].Drops())
	}
	l = x.status(2, 1, api.Body{Client: 1, Seq: 1})
	for kind, want := range map[int][]int{api.KindKept: nil, api.KindPropose: nil, api.KindPrepare: {2, 3}, api.KindCommit: {2}} {
		if got := x.seqs(l, kind); !slices.Equal(got, want) {
			t.Errorf("of kind %d the numbers %v are sent by another one, want %v", kind, got, want)
		}
	}
	x.wantKinds("to who has executed more", x.status(2, 1, api.Body{Client: 1, Seq: 3}))
	x.wantKinds("to who is in another view", x.status(2, 1, api.Body{Client: 1, Seq: 1, View: 1}))
}

// How it goes, 7: to who is in a lower view, or has not begun, its beginning is sent by who leads, and its own wish by the others.
func TestSendsView(t *testing.T) {
	x := four(t)
	w := x.signedBy(x.wish(1, 0, nil), 0, 1, 2, 3)
	x.wantKinds("in view 0", x.status(1, 3, api.Body{Client: 0}))
	for _, who := range []int{1, 2} {
		x.give(who, laid(t, w[0]))
		x.give(who, laid(t, w[3]))
	}
	x.wantView("who leads", 1, 1, true)
	x.wantView("another one", 2, 1, false)
	for _, b := range []api.Body{{Client: 1}, {View: 1}} {
		x.wantKinds("who leads", x.status(1, 3, b), api.KindBegin)
		l := x.status(2, 3, b)
		x.wantKinds("another one", l, api.KindChange)
		if o := x.letters(l, api.KindChange); len(o) == 1 && o[0].m != w[2] {
			t.Errorf("the wish is %+v", o[0])
		}
	}
	for _, b := range []api.Body{{View: 1, Client: 1}, {View: 2}, {View: 2, Client: 1}} {
		x.wantKinds("who leads", x.status(1, 3, b))
		x.wantKinds("another one", x.status(2, 3, b))
	}
	l := x.status(1, 3, api.Body{View: 1})
	for _, who := range []int{2, 3} {
		x.give(who, l[0].Bytes)
		x.wantView("behind the beginning", who, 1, true)
	}
	x.wantKinds("who wished", x.status(2, 3, api.Body{View: 1}), api.KindChange)
	x.wantKinds("who did not", x.status(3, 2, api.Body{View: 1}))
}

// How it goes, 7: states that are not right are dropped, and change nothing.
func TestWrongStates(t *testing.T) {
	x := four(t)
	x.upTo(1, 2, false)
	records := x.twin(4).Records()
	right := x.stateOf(4, records, 0, 2, 3)
	check := api.Body{Kind: api.KindCheck, Seq: 4, Digest: right.Digest}
	give := func(what string, change func(b *api.Body)) {
		t.Helper()
		b := right
		b.List = slices.Clone(b.List)
		change(&b)
		x.wantDropped(what, 1, x.bytesBy(2, b))
	}
	give("checkpoints of a quorum less one", func(b *api.Body) { b.List = b.List[:2] })
	give("one of them twice", func(b *api.Body) { b.List[2] = b.List[1] })
	give("one badly signed", func(b *api.Body) { b.List[2].Sig = b.List[1].Sig })
	give("one of another root", func(b *api.Body) { b.List[2] = x.by(3, api.Body{Kind: api.KindCheck, Seq: 4, Digest: "r"}) })
	give("one of another number", func(b *api.Body) {
		b.List[2] = x.by(3, api.Body{Kind: api.KindCheck, Seq: 8, Digest: b.Digest})
	})
	give("a client's", func(b *api.Body) { b.List[2] = x.by(100, check) })
	give("another number", func(b *api.Body) { b.Seq = 8 })
	give("another root", func(b *api.Body) { b.Digest = "r" })
	give("no records", func(b *api.Body) { b.Text = "" })
	give("records with a byte more", func(b *api.Body) { b.Text += "x" })
	give("other records", func(b *api.Body) { b.Text = x.stateOf(4, x.all[1].Records()).Text })
	// What a quorum signed, but no house is.
	for what, l := range map[string][]api.Record{
		"without a chain":       without(records),
		"without an account":    records[1:],
		"with one record more":  append(slices.Clone(records), api.Record{Key: "z"}),
		"of none":               nil,
		"with another account":  append([]api.Record{{Key: records[0].Key, Value: "x"}}, records[1:]...),
		"of another number":     wholeOf(t, 2, 1),
		"of another's accounts": wholeOf(t, 4, 1),
	} {
		x.wantDropped("a state "+what, 1, x.bytesBy(2, x.stateOf(4, l, 0, 2, 3)))
	}
	x.wantTaken("a right one", 1, x.bytesBy(2, right))
	if x.all[1].Done() != 4 || x.all[1].Low() != 4 || !slices.Equal(x.all[1].Records(), records) {
		t.Errorf("%d is executed, %d stable", x.all[1].Done(), x.all[1].Low())
	}
}

// wholeOf is the state of a house of so many clients and goods.
func wholeOf(t *testing.T, clients, goods int) []api.Record {
	t.Helper()
	h, e := house.New(clients, goods)
	if e != api.OK {
		t.Fatal(e)
	}
	return core.Whole(h.Records(), "")
}

// How it goes, 7: a state that was executed here is not taken over, but its checkpoints make it stable.
func TestStateThatWasExecuted(t *testing.T) {
	x := four(t)
	x.upTo(1, 5, false)
	before := x.all[1].History()
	records := x.twin(4).Records()
	b := x.stateOf(4, records, 0, 2, 3)
	x.wantTaken("what was executed", 1, x.bytesBy(2, b))
	r := x.all[1]
	if r.Done() != 5 || r.Low() != 4 || !slices.Equal(r.History(), before) {
		t.Errorf("%d is executed, %d stable: %+v", r.Done(), r.Low(), r.History())
	}
	// Another root than one's own is not.
	x.upTo(1, 8, false)
	x.wantDropped("another root", 1, x.bytesBy(2, x.stateOf(8, records, 0, 2, 3)))
}

// How it goes, 7: batches that are not right are dropped, and change nothing.
func TestWrongKept(t *testing.T) {
	x := four(t)
	m := x.ask(0, 1)
	right := x.keptOf(3, 1, []api.Signed{m}, 0, 2, 3)
	give := func(what string, change func(b *api.Body)) {
		t.Helper()
		b := right
		b.List = slices.Clone(b.List)
		change(&b)
		x.wantDropped(what, 1, x.bytesBy(2, b))
	}
	give("commits of a quorum less one", func(b *api.Body) { b.List = b.List[:2] })
	give("one of them twice", func(b *api.Body) { b.List[2] = b.List[1] })
	give("one badly signed", func(b *api.Body) { b.List[2].Sig = b.List[1].Sig })
	give("one of another view", func(b *api.Body) { b.List[2] = x.by(3, vote(api.KindCommit, 2, 1, b.Digest)) })
	give("one of another number", func(b *api.Body) { b.List[2] = x.by(3, vote(api.KindCommit, 3, 2, b.Digest)) })
	give("one of another digest", func(b *api.Body) { b.List[2] = x.by(3, vote(api.KindCommit, 3, 1, "d")) })
	give("a prepare", func(b *api.Body) { b.List[2] = x.by(3, vote(api.KindPrepare, 3, 1, b.Digest)) })
	give("a client's", func(b *api.Body) { b.List[2] = x.by(100, vote(api.KindCommit, 3, 1, b.Digest)) })
	give("another view", func(b *api.Body) { b.View = 2 })
	give("another number", func(b *api.Body) { b.Seq = 2 })
	give("another digest", func(b *api.Body) { b.Digest = "d" })
	give("another batch", func(b *api.Body) { b.Text, _ = x.batch(x.ask(1, 1)) })
	give("no batch", func(b *api.Body) { b.Text = "x" })
	give("prepares alone", func(b *api.Body) { b.List = x.signedBy(vote(api.KindPrepare, 3, 1, b.Digest), 0, 2, 3) })
	bad := m
	bad.Sig = "s"
	x.wantDropped("a request that is not signed", 1, x.bytesBy(2, x.keptOf(3, 1, []api.Signed{bad}, 0, 2, 3)))
	x.wantKinds("a right one", x.wantTaken("a right one", 1, x.bytesBy(2, right)), api.KindReply)
	if x.all[1].Done() != 1 || x.all[1].History()[0].Batch != right.Text {
		t.Errorf("%d is executed: %+v", x.all[1].Done(), x.all[1].History())
	}
	// Above a gap it waits.
	x.wantTaken("above a gap", 1, x.bytesBy(2, x.keptOf(0, 3, []api.Signed{x.ask(0, 3)}, 0, 1, 2)))
	if x.all[1].Done() != 1 {
		t.Errorf("%d is executed above a gap", x.all[1].Done())
	}
	x.wantTaken("in the gap", 1, x.bytesBy(2, x.keptOf(1, 2, []api.Signed{x.ask(0, 2)}, 0, 1, 2, 3)))
	if x.all[1].Done() != 3 {
		t.Errorf("%d is executed behind the gap", x.all[1].Done())
	}
}

// How it goes, 8: what a client that asks is told of the stable state, and nothing as long as there is none.
func TestAsk(t *testing.T) {
	for f := 1; f <= 4; f++ {
		x := newWorld(t, api.Config{Faults: f, Clients: 3, Goods: 2, Patience: 9})
		ask := func(key string) []api.Sent {
			return x.wantTaken("a client asks", 1, x.bytesBy(102, api.Body{Kind: api.KindAsk, Client: 2, Text: key}))
		}
		x.wantKinds("nothing is stable", ask("now"))
		x.upTo(1, 3, true)
		x.wantKinds("nothing is stable", ask("now"))
		x.upTo(1, 4, true)
		records := x.all[1].Records()
		x.upTo(1, 7, true) // what is not stable is not told
		x.wantKinds("no key", ask(""))
		for _, key := range []string{"acct/00", "acct/01", "book/1", "chain", "clock/0", "now", "a", "zz"} {
			l := x.letters(ask(key), api.KindProof)
			if len(l) != 1 || l[0].to != 102 || l[0].b.Seq != 4 {
				t.Fatalf("of %s it is told %+v", key, l)
			}
			x.wantProof(l[0].b, key, records)
		}
	}
}

// wantProof: a proof is by f + 1 checkpoints of its root, and shows what records have at a key.
func (x *world) wantProof(b api.Body, key string, records []api.Record) {
	x.t.Helper()
	root, _ := merkle.Root(x.book, records)
	if n := x.book.Quorum(b.List, api.KindCheck, 0, b.Seq, b.Digest, x.n); n != x.c.Faults+1 || len(b.List) != n || b.Digest != root {
		x.t.Errorf("%d signed %x, want %x", n, b.Digest, root)
	}
	p, e := wire.OfProof(b.Text)
	if e != api.OK {
		x.t.Fatalf("no proof: %d", e)
	}
	value, has, e := merkle.Verify(x.book, b.Digest, key, p)
	at := slices.IndexFunc(records, func(r api.Record) bool { return r.Key == key })
	if e != api.OK || has != (at >= 0) || has && value != records[at].Value {
		x.t.Errorf("at %s there is %q, %v, %d", key, value, has, e)
	}
}

// A proof of a state that was taken over is taken as well.
func TestAskBehindState(t *testing.T) {
	x := four(t)
	records := x.twin(8).Records()
	x.give(3, x.bytesBy(2, x.stateOf(8, records, 0, 1, 2)))
	l := x.letters(x.give(3, x.bytesBy(100, api.Body{Kind: api.KindAsk, Text: "acct/00"})), api.KindProof)
	if len(l) != 1 || l[0].b.Seq != 8 {
		t.Fatalf("it is told %+v", l)
	}
	x.wantProof(l[0].b, "acct/00", records)
}
