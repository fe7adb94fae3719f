package core_test

import (
	"slices"
	"testing"

	"gavel/api"
	"gavel/authn"
	"gavel/core"
	"gavel/merkle"
)

// 11.2: every four ticks a replica tells all others how far it is, and else nothing.
func TestTicks(t *testing.T) {
	x := four(t)
	for i := 1; i <= 13; i++ {
		l := x.tick(2)
		if i%4 != 0 {
			x.wantKinds("a tick", l)
			continue
		}
		x.wantKinds("a fourth tick", l, api.KindStatus, api.KindStatus, api.KindStatus)
		x.wantToOthers("a fourth tick", 2, l, api.Body{Kind: api.KindStatus, Client: 1})
	}
	x.upTo(2, 6, true)
	for range 2 {
		x.wantKinds("a tick", x.tick(2))
	}
	x.wantToOthers("behind six numbers", 2, x.tick(2), api.Body{Kind: api.KindStatus, Seq: 6, Client: 1, Stamp: 4})
}

// 11.2: to whom a request is sent on, proposed and answered.
func TestToWhom(t *testing.T) {
	x := four(t)
	m := x.ask(1, 1)
	l := x.give(3, laid(t, m))
	if len(l) != 1 || l[0] != (api.Sent{To: 0, Bytes: laid(t, m)}) {
		t.Errorf("who does not lead sends %v", l)
	}
	l = x.give(0, laid(t, m))
	_, digest := x.batch(m)
	prepare := vote(api.KindPrepare, 0, 1, digest)
	x.wantKinds("the primary", l, 2, 2, 2, 3, 3, 3)
	x.wantToOthers("the primary", 0, l, api.Body{Kind: api.KindPropose, Seq: 1, List: []api.Signed{m}})
	x.wantToOthers("the primary", 0, l, prepare)
	if k := x.kinds(l); k[0] != api.KindPropose {
		t.Errorf("kinds %v were sent: the votes are ahead of what they are for", k)
	}
	l = x.give(3, x.proposal(0, 1, m))
	x.wantKinds("another one", l, 3, 3, 3)
	x.wantToOthers("another one", 3, l, prepare)
	x.wantKinds("prepares of less than a quorum", x.votes(3, prepare, 1))
	l = x.votes(3, prepare, 0)
	x.wantKinds("prepares of a quorum", l, 4, 4, 4)
	x.wantToOthers("prepares of a quorum", 3, l, vote(api.KindCommit, 0, 1, digest))
	l = x.votes(3, vote(api.KindCommit, 0, 1, digest), 0, 2)
	if o := x.letters(l, api.KindReply); len(l) != 1 || len(o) != 1 || o[0].to != 101 || o[0].b.Client != 1 || o[0].b.Stamp != 1 || o[0].b.Text != "\x00\x00" {
		t.Errorf("the client is answered %+v", o)
	}
}

// 11.2: what is told behind one number after another, with checkpoints that a quorum agrees on, and ahead of that.
func TestToldBehindNumbers(t *testing.T) {
	x := four(t)
	r := x.all[2]
	for seq := 1; seq <= 10; seq++ {
		before := r.Records()
		x.executes(2, 0, seq, x.ask(seq%3, seq))
		if r.Done() != seq || r.Low() != (seq-1)/4*4 || len(r.History()) != seq || r.Drops() != 0 {
			t.Fatalf("behind %d: %d, %d, %d rows, %d drops", seq, r.Done(), r.Low(), len(r.History()), r.Drops())
		}
		root, _ := merkle.Root(x.book, r.Records())
		text, _ := x.batch(x.ask(seq%3, seq))
		want := api.Done{Seq: seq, Batch: text, Chain: core.Link(x.book, chainOf(t, before), text)}
		if seq%4 == 0 {
			want.Root = root
		}
		if got := r.History()[seq-1]; got != want || chainOf(t, r.Records()) != want.Chain || r.Root() != root {
			t.Fatalf("behind %d: %+v, want %+v; the root %x, want %x", seq, got, want, r.Root(), root)
		}
		if seq%4 == 0 {
			x.votes(2, api.Body{Kind: api.KindCheck, Seq: seq, Digest: root}, 0, 3)
			if r.Low() != seq {
				t.Fatalf("%d is stable, want %d", r.Low(), seq)
			}
		}
	}
	x.audit()
}

// 11.2: what is told behind a state that was taken over, and behind what is executed above it.
func TestToldBehindState(t *testing.T) {
	x := four(t)
	other := x.twin(9)
	r := x.all[3]
	x.upTo(3, 2, false)
	records := x.twin(8).Records()
	root, _ := merkle.Root(x.book, records)
	x.give(3, x.bytesBy(2, x.stateOf(8, records, 0, 1, 2)))
	want := append(other.History()[:2], api.Done{Seq: 8, Chain: chainOf(t, records), Root: root, Adopted: true})
	if r.Done() != 8 || r.Low() != 8 || r.Root() != root || !slices.Equal(r.Records(), records) || !slices.Equal(r.History(), want) {
		t.Fatalf("behind a state: %d, %d, %+v, want %+v", r.Done(), r.Low(), r.History(), want)
	}
	x.executes(3, 0, 9, x.ask(0, 9))
	want = append(want, other.History()[8])
	if r.Done() != 9 || r.Low() != 8 || r.Root() != other.Root() || !slices.Equal(r.Records(), other.Records()) || !slices.Equal(r.History(), want) {
		t.Fatalf("above a state: %d, %d, %+v, want %+v", r.Done(), r.Low(), r.History(), want)
	}
}

// What is told is new memory: who changes it changes nothing at the replica, nor in what was told ahead.
func TestToldIsNotKept(t *testing.T) {
	x := four(t)
	r := x.all[1]
	x.upTo(1, 5, true)
	want := pictureOf(r)
	h, l := r.History(), r.Records()
	for i := range h {
		h[i] = api.Done{Batch: "changed"}
	}
	for i := range l {
		l[i] = api.Record{Key: "changed"}
	}
	if got := pictureOf(r); got != want {
		t.Errorf("%+v, want %+v", got, want)
	}
	h, l = r.History(), r.Records()
	rows, records := slices.Clone(h), slices.Clone(l)
	x.upTo(1, 9, true)
	if !slices.Equal(h, rows) || !slices.Equal(l, records) {
		t.Errorf("what was told has changed")
	}
}

// keyed is a book of secrets for four replicas and three clients.
func keyed(t *testing.T, signers int) *authn.Book {
	t.Helper()
	var secrets []string
	for i := range signers {
		secrets = append(secrets, string(rune('a'+i%26))+string(rune('a'+i/26)))
	}
	b, e := authn.NewKeyed(secrets)
	if e != api.OK {
		t.Fatal(e)
	}
	return b
}

// A book of secrets does as well: requests, checkpoints and a change of views.
func TestBookOfSecrets(t *testing.T) {
	x := four(t)
	x.book, x.secret = keyed(t, 103), true
	for i := range x.all {
		x.all[i], _ = core.New(x.c, i, x.book)
	}
	for stamp := 1; stamp <= 6; stamp++ {
		if stamp == 5 {
			x.liar[0], x.mute = true, true
		}
		x.toAll(x.ask(0, stamp))
		for range 20 {
			x.round()
		}
	}
	for i, r := range x.all[1:] {
		if v, begun := r.View(); r.Done() != 6 || r.Low() != 4 || v != 1 || !begun || r.Root() != x.all[1].Root() {
			t.Errorf("%d: %d, %d, %d, %v", i+1, r.Done(), r.Low(), v, begun)
		}
	}
}

// A replica for which the book has no secret can sign nothing: it sends nothing of its own, and learns all the same.
func TestNoSecret(t *testing.T) {
	x := four(t)
	x.book = keyed(t, 3)
	r, e := core.New(x.c, 3, x.book)
	if r == nil || e != api.OK {
		t.Fatalf("New = %v, %d", r, e)
	}
	none, _ := x.batch()
	b := x.keptOf(0, 1, nil, 0, 1, 2)
	if l := r.Receive(x.bytesBy(0, b)); len(l) != 0 || r.Done() != 1 || r.History()[0].Batch != none {
		t.Errorf("%v was sent, %d is executed", l, r.Done())
	}
	for range 20 {
		if l := r.Tick(); len(l) != 0 {
			t.Errorf("%v was sent", l)
		}
	}
	wish := x.wish(1, 0, nil)
	for i := range 3 {
		if l := r.Receive(x.bytesBy(i, wish)); len(l) != 0 {
			t.Errorf("%v was sent", l)
		}
	}
	if l := r.Receive(x.bytesBy(1, x.begin(1, x.signedBy(wish, 0, 1, 2)...))); len(l) != 0 {
		t.Errorf("%v was sent", l)
	}
	if v, begun := r.View(); v != 1 || !begun {
		t.Errorf("its view is %d, %v", v, begun)
	}
}
