package core_test

import (
	"testing"

	"gavel/api"
	"gavel/core"
	"gavel/house"
	"gavel/wire"
)

// 11.4: two proposals of one number by a primary that lies, in either order: the first one is voted for, and the other one never, whoever votes for it.
func TestTwoProposals(t *testing.T) {
	for order := range 2 {
		x := four(t)
		l := []api.Signed{x.ask(0, 1), x.ask(1, 1)}
		first, second := l[order], l[1-order]
		_, digest := x.batch(first)
		_, other := x.batch(second)
		x.wantToOthers("the first one", 2, x.wantTaken("the first one", 2, x.proposal(0, 1, first)), vote(api.KindPrepare, 0, 1, digest))
		x.wantDropped("the second one", 2, x.proposal(0, 1, second))
		x.wantDropped("the first one again", 2, x.proposal(0, 1, first))
		x.wantDropped("both", 2, x.proposal(0, 1, first, second))
		x.wantKinds("votes for the second one", x.votes(2, vote(api.KindPrepare, 0, 1, other), 0, 1, 3))
		x.wantKinds("commits of the second one", x.votes(2, vote(api.KindCommit, 0, 1, other), 0, 1, 3))
		if x.all[2].Done() != 0 {
			t.Errorf("%d is executed", x.all[2].Done())
		}
		x.wantDropped("a prepare for the first one behind", 2, x.bytesBy(0, vote(api.KindPrepare, 0, 1, digest)))
	}
}

// 11.4: what is prepared: votes of a quorum less one, of a quorum, for two digests, twice of one, ahead of the proposal.
func TestPrepares(t *testing.T) {
	for f := 1; f <= 4; f++ {
		x := newWorld(t, api.Config{Faults: f, Clients: 2, Goods: 1, Patience: 3})
		who := x.n - 1
		_, digest := x.batch(x.ask(0, 1))
		_, other := x.batch(x.ask(1, 1))
		x.give(who, x.proposal(0, 1, x.ask(0, 1)))
		x.votes(who, vote(api.KindPrepare, 0, 1, other), 0)
		// It has voted itself.
		for i := 1; i < x.quorum()-1; i++ {
			x.wantKinds("a prepare", x.votes(who, vote(api.KindPrepare, 0, 1, digest), i))
			x.wantDropped("twice", who, x.bytesBy(i, vote(api.KindPrepare, 0, 1, digest)))
			x.wantDropped("for another one", who, x.bytesBy(i, vote(api.KindPrepare, 0, 1, other)))
		}
		l := x.votes(who, vote(api.KindPrepare, 0, 1, digest), x.quorum()-1)
		x.wantToOthers("prepares of a quorum", who, l, vote(api.KindCommit, 0, 1, digest))
		if x.quorum() < who {
			x.wantKinds("one more", x.votes(who, vote(api.KindPrepare, 0, 1, digest), x.quorum()))
		}
		// Ahead of the proposal.
		_, digest = x.batch(x.ask(1, 1))
		for i := range x.quorum() - 1 {
			x.wantKinds("ahead", x.votes(who, vote(api.KindPrepare, 0, 2, digest), i))
		}
		l = x.give(who, x.proposal(0, 2, x.ask(1, 1)))
		x.wantToOthers("the proposal behind", who, l, vote(api.KindPrepare, 0, 2, digest))
		x.wantToOthers("the proposal behind", who, l, vote(api.KindCommit, 0, 2, digest))
	}
}

// 11.5: what is executed: commits of a quorum less one, of a quorum, for two digests, and ahead of the proposal.
func TestCommits(t *testing.T) {
	for f := 1; f <= 4; f++ {
		x := newWorld(t, api.Config{Faults: f, Clients: 2, Goods: 1, Patience: 3})
		who := x.n - 1
		r := x.all[who]
		_, digest := x.batch(x.ask(0, 1))
		_, other := x.batch(x.ask(1, 1))
		commit := vote(api.KindCommit, 0, 1, digest)
		x.give(who, x.proposal(0, 1, x.ask(0, 1)))
		x.votes(who, vote(api.KindPrepare, 0, 1, digest), x.others(who)...)
		x.votes(who, vote(api.KindCommit, 0, 1, other), 0)
		for i := 1; i < x.quorum()-1; i++ {
			x.wantKinds("a commit", x.votes(who, commit, i))
			x.wantDropped("twice", who, x.bytesBy(i, commit))
			x.wantDropped("for another one", who, x.bytesBy(i, vote(api.KindCommit, 0, 1, other)))
		}
		if r.Done() != 0 {
			t.Fatalf("%d is executed by commits of a quorum less one", r.Done())
		}
		x.wantKinds("commits of a quorum", x.votes(who, commit, x.quorum()-1), api.KindReply)
		if r.Done() != 1 {
			t.Fatalf("%d is executed", r.Done())
		}
		// All votes ahead of the proposal.
		_, digest = x.batch(x.ask(0, 2))
		for _, kind := range []int{api.KindCommit, api.KindPrepare} {
			x.wantKinds("ahead", x.votes(who, vote(kind, 0, 2, digest), x.others(who)...))
		}
		x.give(who, x.proposal(0, 2, x.ask(0, 2)))
		if r.Done() != 2 {
			t.Fatalf("%d is executed behind the proposal", r.Done())
		}
		x.audit()
	}
}

// 11.5: commits without a quorum of prepares execute nothing, nor do those of two views together.
func TestCommitsAlone(t *testing.T) {
	x := four(t)
	_, digest := x.batch(x.ask(0, 1))
	x.give(3, x.proposal(0, 1, x.ask(0, 1)))
	x.votes(3, vote(api.KindCommit, 0, 1, digest), 0, 1, 2)
	if x.all[3].Done() != 0 {
		t.Errorf("%d is executed without prepares", x.all[3].Done())
	}
	x.votes(3, vote(api.KindPrepare, 0, 1, digest), 0, 1)
	if x.all[3].Done() != 1 {
		t.Errorf("%d is executed with both", x.all[3].Done())
	}
	b := x.keptOf(0, 2, []api.Signed{x.ask(0, 2)}, 0, 1)
	b.List = append(b.List, x.by(2, vote(api.KindCommit, 1, 2, b.Digest)))
	x.wantDropped("commits of two views", 3, x.bytesBy(0, b))
}

// 11.5: a number above a gap waits for those below it.
func TestGap(t *testing.T) {
	x := four(t)
	r := x.all[1]
	for _, seq := range []int{3, 2} {
		_, digest := x.batch(x.ask(0, seq))
		x.give(1, x.proposal(0, seq, x.ask(0, seq)))
		x.votes(1, vote(api.KindPrepare, 0, seq, digest), 0, 2)
		x.wantKinds("above a gap", x.votes(1, vote(api.KindCommit, 0, seq, digest), 0, 2))
		if r.Done() != 0 || len(r.History()) != 0 {
			t.Fatalf("%d is executed above a gap: %+v", r.Done(), r.History())
		}
	}
	_, digest := x.batch(x.ask(0, 1))
	x.give(1, x.proposal(0, 1, x.ask(0, 1)))
	x.votes(1, vote(api.KindPrepare, 0, 1, digest), 0, 2)
	l := x.votes(1, vote(api.KindCommit, 0, 1, digest), 0, 2)
	if r.Done() != 3 || len(r.History()) != 3 {
		t.Fatalf("%d is executed, want 3: %+v", r.Done(), r.History())
	}
	for i, o := range x.letters(l, api.KindReply) {
		if o.b.Stamp != i+1 {
			t.Errorf("the answer %d is to %d", i, o.b.Stamp)
		}
	}
	x.audit()
}

// 11.5: what clients are answered: done and refused requests, the last one again, and stale ones not at all.
func TestAnswers(t *testing.T) {
	x := four(t)
	r := x.all[2]
	pay := x.askFor(0, 5, op(t, api.Op{Kind: house.Pay, Amount: 7}))
	take := x.askFor(1, 3, op(t, api.Op{Kind: house.Take, Amount: 1}))
	stale := x.askFor(0, 4, op(t, api.Op{Kind: house.Pay, Amount: 100}))
	same := x.askFor(0, 5, op(t, api.Op{Kind: house.Pay, Amount: 1000}))
	tick := x.askFor(2, 1, op(t, api.Op{Kind: house.Tick}))
	l := x.executes(2, 0, 1, pay, stale, same, take)
	l = append(l, x.executes(2, 0, 2, tick, pay)...)
	want := []reply{{2, 0, 5, "\x00\x00"}, {2, 1, 3, "\x3d\x00"}, {2, 2, 1, "\x00\x01"}}
	got := x.letters(l, api.KindReply)
	if len(got) != len(want) {
		t.Fatalf("answered was %+v, want %+v", got, want)
	}
	for i, o := range got {
		if (reply{o.m.From, o.b.Client, o.b.Stamp, o.b.Text}) != want[i] || o.to != 100+want[i].client || o.b.View != 0 {
			t.Errorf("the answer %d is %+v to %d, want %+v", i, o.b, o.to, want[i])
		}
	}
	before := pictureOf(r)
	for i, m := range []api.Signed{pay, take, tick, same} {
		l := x.letters(x.wantTaken("the last one again", 2, laid(t, m)), api.KindReply)
		w := want[i%3]
		if len(l) != 1 || l[0].to != 100+w.client || l[0].b.Stamp != w.stamp || l[0].b.Text != w.text {
			t.Errorf("the last one again is answered %+v, want %+v", l, w)
		}
	}
	x.wantDropped("a stale one", 2, laid(t, stale))
	if pictureOf(r) != before {
		t.Errorf("%+v, want %+v", pictureOf(r), before)
	}
	x.audit()
}

// How it goes, 1: which requests wait. The primary proposes each once, a newer one of its client behind it, and none that is below one that waits.
func TestWaiting(t *testing.T) {
	x := four(t)
	next := func(what string, m api.Signed, seq int) {
		t.Helper()
		l := x.wantTaken(what, 0, laid(t, m))
		x.wantToOthers(what, 0, l, api.Body{Kind: api.KindPropose, Seq: seq, List: []api.Signed{m}})
	}
	next("a request", x.ask(0, 3), 1)
	x.wantDropped("once more", 0, laid(t, x.ask(0, 3)))
	x.wantDropped("an older one", 0, laid(t, x.ask(0, 2)))
	x.wantDropped("another one of its stamp", 0, laid(t, x.askFor(0, 3, "other")))
	next("a newer one", x.ask(0, 4), 2)
	next("another client's", x.ask(2, 1), 3)
	for i := 4; i <= 8; i++ {
		next("on and on", x.ask(0, i+1), i)
	}
	x.wantKinds("the window is full", x.wantTaken("the window is full", 0, laid(t, x.ask(0, 10))))
	x.wantKinds("the window is full", x.wantTaken("the window is full", 0, laid(t, x.ask(1, 1))))
	for _, m := range []api.Signed{x.ask(0, 10), x.ask(1, 1)} {
		if s, _ := wire.Bytes(api.Body{Kind: api.KindPropose, Seq: 9, List: []api.Signed{m}}); x.book.Issued(0, s) {
			t.Errorf("a proposal outside of the window is signed")
		}
	}
}

// How it goes, 2: what waits for the window is proposed when it goes on, by client numbers, four at a time.
func TestWindowGoesOn(t *testing.T) {
	x := newWorld(t, api.Config{Faults: 1, Clients: 7, Goods: 1, Patience: 64})
	x.fill(8)
	for client := 6; client > 0; client-- {
		x.wantKinds("the window is full", x.give(0, laid(t, x.ask(client, 1))))
	}
	for seq := 1; seq <= 4; seq++ {
		_, digest := x.batch(x.ask(0, seq))
		for _, kind := range []int{api.KindPrepare, api.KindCommit} {
			x.votes(0, vote(kind, 0, seq, digest), 1, 2)
		}
	}
	root := x.all[0].Root()
	x.wantKinds("a checkpoint", x.votes(0, api.Body{Kind: api.KindCheck, Seq: 4, Digest: root}, 1))
	l := x.letters(x.votes(0, api.Body{Kind: api.KindCheck, Seq: 4, Digest: root}, 3), api.KindPropose)
	if len(l) != 6 || l[0].b.Seq != 9 || l[3].b.Seq != 10 {
		t.Fatalf("proposed is %+v", l)
	}
	for i, want := range [][]int{{1, 2, 3, 4}, {5, 6}} {
		got := l[3*i].b.List
		if len(got) != len(want) {
			t.Fatalf("the batch %d has %d requests", i, len(got))
		}
		for j, m := range got {
			if m.From != 100+want[j] {
				t.Errorf("the request %d of batch %d is by %d", j, i, m.From)
			}
		}
	}
}

// fill lets the primary propose so many numbers, each a request of client 0.
func (x *world) fill(numbers int) {
	x.t.Helper()
	for stamp := 1; stamp <= numbers; stamp++ {
		l := x.give(0, laid(x.t, x.ask(0, stamp)))
		if len(x.letters(l, api.KindPropose)) != x.n-1 {
			x.t.Fatalf("the request %d is not proposed", stamp)
		}
	}
}

// How it goes, 4: checkpoints of a quorum less one, of two roots, and of a quorum, of which one's own is one; and those that come ahead of the number.
func TestCheckpoints(t *testing.T) {
	x := four(t)
	r := x.all[1]
	x.upTo(1, 3, false)
	l := x.executes(1, 0, 4, x.ask(0, 4))
	root := r.Root()
	check := api.Body{Kind: api.KindCheck, Seq: 4, Digest: root}
	x.wantToOthers("behind the fourth number", 1, l, check)
	x.votes(1, check, 0)
	x.votes(1, api.Body{Kind: api.KindCheck, Seq: 4, Digest: "other"}, 2)
	x.wantDropped("twice", 1, x.bytesBy(0, check))
	x.wantDropped("another root of one", 1, x.bytesBy(2, check))
	if r.Low() != 0 {
		t.Fatalf("%d is stable", r.Low())
	}
	x.votes(1, check, 3)
	if r.Low() != 4 {
		t.Fatalf("%d is stable, want 4", r.Low())
	}
	// Ahead of the number: stable is what is executed, too.
	eighth := api.Body{Kind: api.KindCheck, Seq: 8, Digest: x.twin(8).Root()}
	x.votes(1, eighth, 0, 2, 3)
	for seq := 5; seq <= 8; seq++ {
		if r.Low() != 4 {
			t.Fatalf("%d is stable ahead of %d", r.Low(), seq)
		}
		x.executes(1, 0, seq, x.ask(0, seq))
	}
	if r.Low() != 8 {
		t.Fatalf("%d is stable, want 8", r.Low())
	}
	// A root that is not one's own is not stable, though all others sign it.
	x.upTo(1, 12, false)
	x.votes(1, api.Body{Kind: api.KindCheck, Seq: 12, Digest: "other"}, 0, 2, 3)
	if r.Low() != 8 {
		t.Fatalf("%d is stable by another root", r.Low())
	}
}

// How it goes, 3: a batch of no request is one, too.
func TestNoRequests(t *testing.T) {
	x := four(t)
	x.executes(1, 0, 1)
	none, _ := x.batch()
	if h := x.all[1].History(); len(h) != 1 || h[0].Batch != none || h[0].Chain != core.Link(x.book, "", none) {
		t.Errorf("executed is %+v", h)
	}
	x.audit()
}
