package core_test

import (
	"slices"
	"testing"

	"gavel/api"
	"gavel/wire"
)

// wantWish: a replica sent just this wish to all others.
func (x *world) wantWish(what string, who int, l []api.Sent, view, low int) api.Body {
	x.t.Helper()
	o := x.letters(l, api.KindChange)
	if len(o) != x.n-1 {
		x.t.Fatalf("%s: %d wishes were sent", what, len(o))
	}
	b := o[0].b
	if b.View != view || b.Seq != low {
		x.t.Errorf("%s: it wishes %+v", what, b)
	}
	x.wantToOthers(what, who, l, b)
	x.wantView(what, who, view, false)
	return b
}

// How it goes, 5: a request that has waited for more than patience lets a replica wish; each view doubles it.
func TestPatience(t *testing.T) {
	x := four(t) // patience 3
	x.tick(2)
	x.give(2, laid(t, x.ask(0, 1)))
	for range 3 {
		x.tick(2)
		x.wantView("as long as patience", 2, 0, true)
	}
	x.wantWish("for longer than patience", 2, x.tick(2), 1, 0)
	// Alone it wishes for nothing more, however long it takes.
	for range 50 {
		x.tick(2)
	}
	x.wantView("alone", 2, 1, false)
	// A quorum with itself: 0 and 3. From then on it is as patient as in view 1.
	x.give(2, x.bytesBy(0, x.wish(1, 0, nil)))
	for range 20 {
		x.tick(2)
	}
	x.wantView("a quorum less one", 2, 1, false)
	x.give(2, x.bytesBy(3, x.wish(1, 0, nil)))
	for range 6 {
		x.tick(2)
		x.wantView("as long as patience", 2, 1, false)
	}
	x.wantWish("for longer than patience", 2, x.tick(2), 2, 0)
	// Wishes for higher views count, too: in view 2 for 12 ticks.
	x.give(2, x.bytesBy(0, x.wish(3, 0, nil)))
	for range 30 {
		x.tick(2)
	}
	x.wantView("a quorum less one", 2, 2, false)
	x.give(2, x.bytesBy(1, x.wish(2, 0, nil)))
	for range 12 {
		x.tick(2)
		x.wantView("as long as patience", 2, 2, false)
	}
	x.wantWish("for longer than patience", 2, x.tick(2), 3, 0)
}

// How it goes, 5: a view that has begun has its own time for what waits, and what is executed does not wait any more.
func TestPatienceInView(t *testing.T) {
	x := four(t)
	x.give(2, laid(t, x.ask(0, 1)))
	for range 3 {
		x.tick(2)
	}
	w := x.wish(1, 0, nil)
	l := x.give(2, x.bytesBy(1, x.begin(1, x.signedBy(w, 0, 1, 3)...)))
	x.wantView("a beginning", 2, 1, true)
	if len(l) != 1 || l[0] != (api.Sent{To: 1, Bytes: laid(t, x.ask(0, 1))}) {
		t.Errorf("what waits is sent on to the new primary: %v", x.kinds(l))
	}
	for range 6 {
		x.tick(2)
		x.wantView("as long as patience", 2, 1, true)
	}
	x.wantWish("for longer than patience", 2, x.tick(2), 2, 0)

	x = four(t)
	x.give(2, laid(t, x.ask(0, 1)))
	for range 3 {
		x.tick(2)
	}
	x.executes(2, 0, 1, x.ask(0, 1))
	for range 50 {
		x.tick(2)
	}
	x.wantView("executed", 2, 0, true)
	// One that is executed in a state that is taken over, too.
	x.give(2, laid(t, x.ask(0, 3)))
	x.give(2, x.bytesBy(1, x.stateOf(4, x.twin(4).Records(), 0, 1, 3)))
	for range 50 {
		x.tick(2)
	}
	x.wantView("taken over", 2, 0, true)
}

// How it goes, 5: in a high view patience is doubled no more than 16 times.
func TestMostPatience(t *testing.T) {
	x := newWorld(t, api.Config{Faults: 1, Clients: 1, Goods: 1, Patience: 1})
	view := 4003
	x.give(2, x.bytesBy(3, x.begin(view, x.signedBy(x.wish(view, 0, nil), 0, 1, 3)...)))
	x.wantView("a beginning", 2, view, true)
	x.give(2, laid(t, x.ask(0, 1)))
	for range 1 << 16 {
		x.all[2].Tick()
	}
	x.wantView("as long as patience", 2, view, true)
	x.wantWish("for longer than patience", 2, x.tick(2), view+1, 0)
}

// Behind the last view there is none.
func TestLastView(t *testing.T) {
	x := newWorld(t, api.Config{Faults: 1, Clients: 1, Goods: 1, Patience: 1})
	who := (api.MaxView + 1) % 4
	w := x.wish(api.MaxView, 0, nil)
	for i := range 4 {
		if i != who {
			x.give(who, x.bytesBy(i, w))
		}
	}
	x.wantView("the last view", who, api.MaxView, false)
	for range 1<<16 + 9 {
		x.all[who].Tick()
	}
	x.wantView("the last view", who, api.MaxView, false)
}

// How it goes, 5: f + 1 others who wish for a view or for higher ones let a replica wish for it.
func TestJoin(t *testing.T) {
	for f := 1; f <= 4; f++ {
		x := newWorld(t, api.Config{Faults: f, Clients: 1, Goods: 1, Patience: 64})
		who := x.n - 1
		for i := range f {
			x.wantKinds("a wish", x.wantTaken("a wish", who, x.bytesBy(i, x.wish(20+i, 0, nil))))
			x.wantView("f wishes", who, 0, true)
		}
		x.wantWish("f + 1 wishes", who, x.give(who, x.bytesBy(f, x.wish(17, 0, nil))), 17, 0)
		// One that wishes for more counts once.
		x.wantKinds("more of one", x.give(who, x.bytesBy(0, x.wish(30, 0, nil))))
		x.wantView("more of one", who, 17, false)
		x.wantWish("all higher", who, x.give(who, x.bytesBy(f, x.wish(18, 0, nil))), 18, 0)
	}
}

// spoil changes a right wish or proof into a wrong one.
type spoil struct {
	what string
	do   func(x *world) api.Body
}

// wrongWishes are wishes for view 3 that are not right: with wrong checkpoints, or wrong proofs.
func wrongWishes() []spoil {
	check := func(seq int, root string) api.Body { return api.Body{Kind: api.KindCheck, Seq: seq, Digest: root} }
	one := func(x *world) []api.Signed { return []api.Signed{x.ask(0, 1)} }
	// proof is a right proof with something about it changed.
	proof := func(change func(x *world, b *api.Body)) func(x *world) api.Body {
		return func(x *world) api.Body {
			b := x.proof(1, 2, one(x), 0, 1, 2)
			change(x, &b)
			return x.wish(3, 0, nil, b)
		}
	}
	return []spoil{
		{"a low number without checkpoints", func(x *world) api.Body { return x.wish(3, 4, nil) }},
		{"checkpoints of a quorum less one", func(x *world) api.Body { return x.wish(3, 4, x.signedBy(check(4, "r"), 0, 1)) }},
		{"one of them twice", func(x *world) api.Body { return x.wish(3, 4, x.signedBy(check(4, "r"), 0, 1, 1)) }},
		{"a client's among them", func(x *world) api.Body { return x.wish(3, 4, x.signedBy(check(4, "r"), 0, 1, 100)) }},
		{"of another number", func(x *world) api.Body { return x.wish(3, 4, x.signedBy(check(8, "r"), 0, 1, 2)) }},
		{"of two roots", func(x *world) api.Body {
			return x.wish(3, 4, append(x.signedBy(check(4, "r"), 0, 1), x.by(2, check(4, "s"))))
		}},
		{"one more of another root", func(x *world) api.Body {
			return x.wish(3, 4, append(x.signedBy(check(4, "r"), 0, 1, 2), x.by(3, check(4, "s"))))
		}},
		{"badly signed", func(x *world) api.Body {
			l := x.signedBy(check(4, "r"), 0, 1, 2)
			l[2].From = 3
			return x.wish(3, 4, l)
		}},
		{"prepares in their place", func(x *world) api.Body {
			return x.wish(3, 4, x.signedBy(vote(api.KindPrepare, 0, 4, "r"), 0, 1, 2))
		}},
		{"no bodies", func(x *world) api.Body {
			sig, _ := x.book.Sign(0, "x")
			return x.wish(3, 4, []api.Signed{{Body: "x", Sig: sig}, {Body: "x", Sig: sig}, {Body: "x", Sig: sig}})
		}},
		{"checkpoints of no number", func(x *world) api.Body { return x.wish(3, 0, x.signedBy(check(4, "r"), 0, 1, 2)) }},
		{"prepares of a quorum less one", func(x *world) api.Body { return x.wish(3, 0, nil, x.proof(1, 2, one(x), 0, 1)) }},
		{"one of them twice", func(x *world) api.Body { return x.wish(3, 0, nil, x.proof(1, 2, one(x), 0, 1, 0)) }},
		{"one more that is none", proof(func(x *world, b *api.Body) { b.List = append(b.List, api.Signed{Body: "x"}) })},
		{"prepares of another digest", proof(func(x *world, b *api.Body) { _, b.Digest = x.batch(x.ask(1, 1)) })},
		{"prepares of another view", proof(func(x *world, b *api.Body) { b.View = 0 })},
		{"prepares of another number", proof(func(x *world, b *api.Body) { b.Seq = 3 })},
		{"one prepare of another view", proof(func(x *world, b *api.Body) { b.List[1] = x.by(1, vote(api.KindPrepare, 0, 2, b.Digest)) })},
		{"a prepare badly signed", proof(func(x *world, b *api.Body) { b.List[1].Sig = b.List[0].Sig })},
		{"commits in their place", proof(func(x *world, b *api.Body) {
			b.List = x.signedBy(vote(api.KindCommit, 1, 2, b.Digest), 0, 1, 2)
		})},
		{"another batch", proof(func(x *world, b *api.Body) { b.Text, _ = x.batch(x.ask(1, 1)) })},
		{"no batch", proof(func(x *world, b *api.Body) { b.Text = "x" })},
		{"no text", proof(func(x *world, b *api.Body) { b.Text = "" })},
		{"a digest of no batch", func(x *world) api.Body {
			d := x.book.Digest("x")
			return x.wish(3, 0, nil, api.Body{Kind: api.KindKept, View: 1, Seq: 2, Digest: d, Text: "x", List: x.signedBy(vote(api.KindPrepare, 1, 2, d), 0, 1, 2)})
		}},
		{"a request that is not signed", func(x *world) api.Body {
			m := x.ask(0, 1)
			m.Sig = "s"
			return x.wish(3, 0, nil, x.proof(1, 2, []api.Signed{m}, 0, 1, 2))
		}},
		{"a request by a replica", func(x *world) api.Body {
			return x.wish(3, 0, nil, x.proof(1, 2, x.signedBy(api.Body{Kind: api.KindRequest, Stamp: 1}, 0), 0, 1, 2))
		}},
		{"a proof of the view itself", func(x *world) api.Body { return x.wish(3, 0, nil, x.proof(3, 2, one(x), 0, 1, 2)) }},
		{"a proof of a higher view", func(x *world) api.Body { return x.wish(3, 0, nil, x.proof(4, 2, one(x), 0, 1, 2)) }},
		{"a number more than 8 above", func(x *world) api.Body { return x.wish(3, 0, nil, x.proof(1, 9, one(x), 0, 1, 2)) }},
		{"a number more than 8 above the low one", func(x *world) api.Body {
			return x.wish(3, 4, x.signedBy(check(4, "r"), 0, 1, 2), x.proof(1, 13, one(x), 0, 1, 2))
		}},
		{"a stable number", func(x *world) api.Body {
			return x.wish(3, 4, x.signedBy(check(4, "r"), 0, 1, 2), x.proof(1, 4, one(x), 0, 1, 2))
		}},
		{"numbers that fall", func(x *world) api.Body {
			return x.wish(3, 0, nil, x.proof(1, 2, one(x), 0, 1, 2), x.proof(1, 1, one(x), 0, 1, 2))
		}},
		{"a number twice", func(x *world) api.Body {
			return x.wish(3, 0, nil, x.proof(0, 2, one(x), 0, 1, 2), x.proof(1, 2, one(x), 0, 1, 2))
		}},
		{"a proof from another one", func(x *world) api.Body {
			b := x.wish(3, 0, nil, x.proof(1, 2, one(x), 0, 1, 2))
			b.List[0].From = 1
			return b
		}},
		{"a proof that is signed", func(x *world) api.Body {
			b := x.wish(3, 0, nil)
			b.List = x.signedBy(x.proof(1, 2, one(x), 0, 1, 2), 0)
			return b
		}},
		{"a checkpoint behind a proof", func(x *world) api.Body {
			b := x.wish(3, 4, x.signedBy(check(4, "r"), 0, 1, 2), x.proof(1, 6, one(x), 0, 1, 2))
			b.List = append(b.List, x.by(3, check(4, "r")))
			return b
		}},
		{"no proof", func(x *world) api.Body {
			b := x.wish(3, 0, nil)
			b.List = []api.Signed{{Body: "x"}}
			return b
		}},
		{"a proof that is a state", func(x *world) api.Body {
			b := x.proof(0, 4, one(x), 0, 1, 2)
			b.Kind = api.KindState
			return x.wish(3, 0, nil, b)
		}},
		{"a proof of another kind", func(x *world) api.Body {
			b := x.wish(3, 0, nil)
			p, _ := wire.Bytes(api.Body{Kind: api.KindPropose, View: 1, Seq: 2, List: one(x)})
			b.List = []api.Signed{{Body: p}}
			return b
		}},
	}
}

// rightWishes are wishes for view 3 at the edges of what is right.
func rightWishes() []spoil {
	check := api.Body{Kind: api.KindCheck, Seq: 4, Digest: "r"}
	return []spoil{
		{"nothing", func(x *world) api.Body { return x.wish(3, 0, nil) }},
		{"checkpoints of a quorum", func(x *world) api.Body { return x.wish(3, 4, x.signedBy(check, 0, 1, 2)) }},
		{"of other ones", func(x *world) api.Body { return x.wish(3, 4, x.signedBy(check, 1, 2, 3)) }},
		{"a proof of view 2 of the number 8", func(x *world) api.Body {
			return x.wish(3, 0, nil, x.proof(2, 8, []api.Signed{x.ask(0, 1)}, 1, 2, 3))
		}},
		{"of a low number, and proofs above it", func(x *world) api.Body {
			return x.wish(3, 4, x.signedBy(check, 0, 1, 2), x.proof(0, 5, nil, 0, 1, 2), x.proof(2, 12, []api.Signed{x.ask(0, 1), x.ask(1, 1)}, 0, 2, 3))
		}},
	}
}

// How it goes, 5 and 6: a wrong wish counts for nothing: it is dropped, f + 1 with it let nobody join, and no view begins with it.
func TestWrongWishes(t *testing.T) {
	for _, s := range wrongWishes() {
		x := four(t)
		wrong := s.do(x)
		x.wantTaken("a right one", 0, x.bytesBy(3, x.wish(3, 0, nil)))
		x.wantDropped(s.what, 0, x.bytesBy(2, wrong))
		l := x.signedBy(x.wish(3, 0, nil), 0, 1)
		x.wantDropped("a view with it: "+s.what, 0, x.bytesBy(3, x.begin(3, l[0], l[1], x.by(2, wrong))))
		x.wantView(s.what, 0, 0, true)
	}
	for _, s := range rightWishes() {
		x := four(t)
		x.wantTaken("a right one", 0, x.bytesBy(3, x.wish(3, 0, nil)))
		x.wantWish(s.what, 0, x.wantTaken(s.what, 0, x.bytesBy(2, s.do(x))), 3, 0)
		x = four(t)
		l := x.signedBy(x.wish(3, 0, nil), 0, 1)
		x.wantTaken("a view with it: "+s.what, 0, x.bytesBy(3, x.begin(3, l[0], l[1], x.by(2, s.do(x)))))
		x.wantView(s.what, 0, 3, true)
	}
}

// How it goes, 6: beginnings that are not right.
func TestWrongBeginnings(t *testing.T) {
	x := four(t)
	w := x.signedBy(x.wish(1, 0, nil), 0, 1, 2, 3)
	higher := x.signedBy(x.wish(2, 0, nil), 0, 1, 2, 3)
	spoiled := w[1]
	spoiled.Sig = w[0].Sig
	client := x.by(100, x.wish(1, 0, nil))
	for what, l := range map[string][]api.Signed{
		"wishes of a quorum less one": {w[0], w[1]},
		"one of them twice":           {w[0], w[1], w[1]},
		"one of them":                 {w[3]},
		"senders that fall":           {w[0], w[2], w[1]},
		"a wish for another view":     {w[0], w[1], higher[2]},
		"wishes for another view":     {higher[0], higher[1], higher[2]},
		"badly signed":                {w[0], spoiled, w[2]},
		"a client's":                  {w[0], w[1], client},
		"no wish":                     {w[0], w[1], x.by(2, vote(api.KindPrepare, 1, 1, "d"))},
		"a status":                    {w[0], w[1], x.by(2, api.Body{Kind: api.KindStatus, View: 1})},
		"a wish without a signature":  {w[0], w[1], {From: 2, Body: w[2].Body}},
	} {
		x.wantDropped(what, 2, x.bytesBy(1, x.begin(1, l...)))
	}
	for _, who := range []int{0, 3} {
		x.wantDropped("who does not lead", 2, x.bytesBy(who, x.begin(1, w[0], w[1], w[3])))
	}
	x.wantDropped("another view", 2, x.bytesBy(1, x.begin(2, w[0], w[1], w[3])))
	x.wantTaken("a right one", 2, x.bytesBy(1, x.begin(1, w[0], w[1], w[3])))
	x.wantView("a right one", 2, 1, true)
	x.wantDropped("a lower one", 3, x.bytesBy(0, x.begin(0+4, higher...)))
	x.wantTaken("of all", 3, x.bytesBy(2, x.begin(2, higher...)))
	x.wantView("of all", 3, 2, true)
}

// How it goes, 6: what a view begins with: above the highest stable number, of each number the proof of the highest view, and nothing where there is none. All vote for that, and nothing else is proposed there.
func TestBegins(t *testing.T) {
	x := four(t)
	a, b, c, d := x.ask(0, 1), x.ask(1, 1), x.ask(2, 1), x.ask(0, 2)
	root := "root of the others"
	cert := x.signedBy(api.Body{Kind: api.KindCheck, Seq: 4, Digest: root}, 0, 1, 2)
	w := []api.Signed{
		x.by(0, x.wish(7, 0, nil, x.proof(0, 3, []api.Signed{a}, 0, 1, 2), x.proof(5, 6, []api.Signed{b}, 0, 1, 2))),
		x.by(1, x.wish(7, 4, cert, x.proof(6, 6, []api.Signed{c}, 0, 1, 2))),
		x.by(3, x.wish(7, 4, cert, x.proof(2, 6, []api.Signed{a}, 0, 1, 2), x.proof(3, 8, []api.Signed{d}, 0, 1, 2))),
	}
	l := x.wantTaken("a beginning", 2, x.bytesBy(3, x.begin(7, w...)))
	x.wantView("a beginning", 2, 7, true)
	batches := map[int][]api.Signed{5: nil, 6: {c}, 7: nil, 8: {d}}
	x.wantKinds("a beginning", l, slices.Repeat([]int{api.KindPrepare}, 4*3)...)
	for _, o := range x.letters(l, api.KindPrepare) {
		requests, has := batches[o.b.Seq]
		if _, digest := x.batch(requests...); !has || o.b.Digest != digest || o.b.View != 7 {
			t.Errorf("it votes for %+v", o.b)
		}
	}
	for seq := range 9 {
		if seq > 0 {
			x.wantDropped("another proposal", 2, x.bytesBy(3, api.Body{Kind: api.KindPropose, View: 7, Seq: seq, List: []api.Signed{a}}))
		}
	}
	for seq, requests := range batches {
		_, digest := x.batch(requests...)
		l := x.votes(2, vote(api.KindPrepare, 7, seq, digest), 0, 1)
		x.wantToOthers("prepares of a quorum", 2, l, vote(api.KindCommit, 7, seq, digest))
		x.votes(2, vote(api.KindCommit, 7, seq, digest), 0, 1)
	}
	if x.all[2].Done() != 0 {
		t.Errorf("%d is executed without what is stable", x.all[2].Done())
	}
}

// How it goes, 6: the primary begins a view, if a quorum wishes for just this one, with just a quorum of wishes, by rising senders; then it proposes what waits above what the view begins with.
func TestLeads(t *testing.T) {
	x := newWorld(t, api.Config{Faults: 2, Clients: 3, Goods: 1, Patience: 60})
	a, b, c := x.ask(0, 1), x.ask(1, 1), x.ask(2, 1)
	x.give(3, laid(t, c))
	x.give(3, laid(t, a))
	proof := x.proof(1, 2, []api.Signed{a}, 0, 1, 2, 4, 6)
	x.give(3, x.bytesBy(6, x.wish(3, 0, nil)))
	x.give(3, x.bytesBy(5, x.wish(4, 0, nil)))
	own := x.wantWish("f + 1", 3, x.give(3, x.bytesBy(2, x.wish(3, 0, nil, proof))), 3, 0)
	x.wantKinds("a quorum less one", x.give(3, x.bytesBy(1, x.wish(3, 0, nil))))
	x.wantView("a quorum less one", 3, 3, false)
	l := x.give(3, x.bytesBy(4, x.wish(3, 0, nil)))
	x.wantView("a quorum", 3, 3, true)
	x.wantToOthers("a quorum", 3, l, x.begin(3,
		x.by(1, x.wish(3, 0, nil)), x.by(2, x.wish(3, 0, nil, proof)), x.by(3, own), x.by(4, x.wish(3, 0, nil)), x.by(6, x.wish(3, 0, nil))))
	x.wantToOthers("a quorum", 3, l, api.Body{Kind: api.KindPropose, View: 3, Seq: 3, List: []api.Signed{c}})
	x.wantKinds("a quorum", l, slices.Concat(slices.Repeat([]int{api.KindBegin, api.KindPropose}, 6), slices.Repeat([]int{api.KindPrepare}, 6*3))...)
	l = x.give(3, laid(t, b))
	x.wantToOthers("a request", 3, l, api.Body{Kind: api.KindPropose, View: 3, Seq: 4, List: []api.Signed{b}})
	// What the view began with is not proposed once more: who has not begun is sent the beginning.
	l = x.status(3, 5, api.Body{View: 3, Client: 1})
	if got := x.seqs(l, api.KindPropose); !slices.Equal(got, []int{3, 4}) || len(x.letters(l, api.KindBegin)) != 0 {
		t.Errorf("proposed again are %v", got)
	}
	if got := x.seqs(l, api.KindPrepare); !slices.Equal(got, []int{1, 2, 3, 4}) {
		t.Errorf("prepares are sent again of %v", got)
	}
}

// How it goes, 6: who leads proposes above the highest stable number, though it has not executed that much.
func TestLeadsFromBehind(t *testing.T) {
	x := four(t)
	cert := x.signedBy(api.Body{Kind: api.KindCheck, Seq: 4, Digest: "r"}, 0, 2, 3)
	x.give(1, laid(t, x.ask(0, 9)))
	x.give(1, x.bytesBy(0, x.wish(1, 4, cert)))
	l := x.give(1, x.bytesBy(2, x.wish(1, 0, nil)))
	x.wantView("a quorum", 1, 1, true)
	x.wantToOthers("a quorum", 1, l, api.Body{Kind: api.KindPropose, View: 1, Seq: 5, List: []api.Signed{x.ask(0, 9)}})
}

// How it goes, 2: who leads proposes above what it has executed, also by others' commits of a view of theirs.
func TestLeadsAboveDone(t *testing.T) {
	x := four(t)
	x.give(0, x.bytesBy(2, x.keptOf(3, 1, []api.Signed{x.ask(0, 1)}, 1, 2, 3)))
	l := x.give(0, laid(t, x.ask(0, 2)))
	x.wantToOthers("a request", 0, l, api.Body{Kind: api.KindPropose, Seq: 2, List: []api.Signed{x.ask(0, 2)}})
}

// How it goes, 6: a view that begins above what is executed here, but is not stable here yet, makes it stable.
func TestBeginMakesStable(t *testing.T) {
	x := four(t)
	x.upTo(2, 5, false)
	root := x.all[2].History()[3].Root
	cert := x.signedBy(api.Body{Kind: api.KindCheck, Seq: 4, Digest: root}, 0, 1, 3)
	w := x.signedBy(x.wish(1, 4, cert), 0, 1, 3)
	x.give(2, x.bytesBy(1, x.begin(1, w...)))
	if x.wantView("a beginning", 2, 1, true); x.all[2].Low() != 4 || x.all[2].Done() != 5 {
		t.Errorf("%d is stable, %d executed", x.all[2].Low(), x.all[2].Done())
	}
	x.wantTaken("at the window's end", 2, x.proposal(1, 12, x.ask(0, 6)))
}

// How it goes, 6: what a view begins with is laid down as far as the window goes, and the rest when it goes on.
func TestBeginsAboveWindow(t *testing.T) {
	x := four(t)
	records := x.twin(8).Records()
	state := x.stateOf(8, records, 0, 1, 3)
	a := x.ask(1, 1)
	w := x.signedBy(x.wish(1, 8, state.List, x.proof(0, 10, []api.Signed{a}, 0, 1, 3)), 0, 1, 3)
	x.wantKinds("a beginning", x.give(2, x.bytesBy(1, x.begin(1, w...))))
	x.wantDropped("at a stable number", 2, x.proposal(1, 5, x.ask(0, 1)))
	l := x.give(2, x.bytesBy(1, state))
	_, none := x.batch()
	_, digest := x.batch(a)
	o := x.letters(l, api.KindPrepare)
	if len(o) != 6 || len(l) != 6 || o[0].b.Digest != none || o[0].b.Seq != 9 || o[3].b.Digest != digest || o[3].b.Seq != 10 {
		t.Errorf("behind the state it votes %+v", o)
	}
	if x.all[2].Done() != 8 || x.all[2].Low() != 8 {
		t.Errorf("%d is executed, %d stable", x.all[2].Done(), x.all[2].Low())
	}
}

// How it goes, 5: a wish has the quorum of checkpoints of the low number, and the proofs of what was prepared, of each number the one of the highest view.
func TestOwnWish(t *testing.T) {
	x := newWorld(t, api.Config{Faults: 1, Clients: 3, Goods: 1, Patience: 1})
	x.upTo(2, 4, true)
	root := x.all[2].Root()
	a, b, c := x.ask(1, 1), x.ask(2, 1), x.ask(2, 2)
	for seq, m := range map[int]api.Signed{5: a, 7: b, 8: c} {
		_, digest := x.batch(m)
		x.give(2, x.proposal(0, seq, m))
		if seq < 8 {
			x.votes(2, vote(api.KindPrepare, 0, seq, digest), 0, 3)
		}
	}
	x.give(2, laid(t, a))
	x.tick(2)
	cert := x.signedBy(api.Body{Kind: api.KindCheck, Seq: 4, Digest: root}, 0, 1, 2)
	want := x.wish(1, 4, cert, x.proof(0, 5, []api.Signed{a}, 0, 2, 3), x.proof(0, 7, []api.Signed{b}, 0, 2, 3))
	if got := x.wantWish("behind a view", 2, x.tick(2), 1, 4); !sameBody(got, want) {
		t.Errorf("it wishes %+v, want %+v", got, want)
	}
	// In view 1 the number 5 is prepared again, 6 for the first time.
	w := x.signedBy(x.wish(1, 4, cert, x.proof(0, 5, []api.Signed{a}, 0, 2, 3)), 0, 1, 3)
	x.give(2, x.bytesBy(1, x.begin(1, w...)))
	for _, m := range []api.Signed{a, c} {
		_, digest := x.batch(m)
		seq := 5
		if m == c {
			seq = 6
			x.give(2, x.proposal(1, seq, m))
		}
		x.votes(2, vote(api.KindPrepare, 1, seq, digest), 1, 3)
	}
	x.tick(2)
	x.tick(2)
	want = x.wish(2, 4, cert, x.proof(1, 5, []api.Signed{a}, 1, 2, 3), x.proof(1, 6, []api.Signed{c}, 1, 2, 3), x.proof(0, 7, []api.Signed{b}, 0, 2, 3))
	if got := x.wantWish("behind two views", 2, x.tick(2), 2, 4); !sameBody(got, want) {
		t.Errorf("it wishes %+v, want %+v", got, want)
	}
}

func sameBody(a, b api.Body) bool {
	s, e := wire.Bytes(a)
	u, f := wire.Bytes(b)
	return s == u && e == api.OK && f == api.OK
}

// How it goes, 5: who wishes does not vote until the view begins, in the old view neither.
func TestNoVotesAhead(t *testing.T) {
	x := four(t)
	m := x.ask(0, 1)
	_, digest := x.batch(m)
	x.give(2, x.proposal(0, 1, m))
	x.votes(2, vote(api.KindPrepare, 0, 1, digest), 0)
	x.give(2, x.bytesBy(0, x.wish(1, 0, nil)))
	x.give(2, x.bytesBy(1, x.wish(1, 0, nil)))
	x.wantView("it wishes", 2, 1, false)
	x.wantDropped("a prepare of the old view", 2, x.bytesBy(1, vote(api.KindPrepare, 0, 1, digest)))
	x.wantDropped("a proposal of the old view", 2, x.proposal(0, 2, x.ask(1, 1)))
	x.wantDropped("a proposal of the new one", 2, x.proposal(1, 1, m))
	x.wantKinds("votes of the new one", x.votes(2, vote(api.KindPrepare, 1, 1, digest), 0, 1, 3))
	// What is committed is executed all the same.
	x.wantTaken("a committed batch", 2, x.bytesBy(3, x.keptOf(0, 1, []api.Signed{m}, 0, 1, 3)))
	if x.all[2].Done() != 1 {
		t.Errorf("%d is executed", x.all[2].Done())
	}
}

// A replica that was cut off through changes of views and checkpoints comes back, though who leads then says nothing any more.
func TestComesBack(t *testing.T) {
	for _, silent := range []int{-1, 1} {
		x := newWorld(t, api.Config{Faults: 1, Clients: 2, Goods: 1, Patience: 2})
		stamp := 0
		run := func(rounds int) {
			for i := range rounds {
				if i%6 == 0 {
					stamp++
					x.toAll(x.ask(0, stamp))
				}
				for j := range x.n {
					x.cutOffLiars()
					x.tick(j)
				}
				for range 3 {
					x.cutOffLiars()
					x.sweep()
				}
			}
		}
		x.mute = true
		x.liar[0] = true
		run(30)
		x.liar[0] = false
		run(30)
		x.liar[3] = true
		run(30)
		if v, begun := x.all[1].View(); v != 1 || !begun || x.all[1].Low() <= x.all[3].Done() {
			t.Fatalf("view %d, %v; %d is stable, and 3 has executed %d", v, begun, x.all[1].Low(), x.all[3].Done())
		}
		x.liar[3] = false
		if silent >= 0 {
			x.liar[silent] = true
		}
		run(60)
		for _, i := range x.honest() {
			if !x.has(i, 0, stamp) {
				t.Errorf("%d has executed %d, and not the stamp %d", i, x.all[i].Done(), stamp)
			}
		}
		if h := x.all[3].History(); !slices.ContainsFunc(h, func(d api.Done) bool { return d.Adopted }) {
			t.Errorf("3 took over no state: %+v", h)
		}
		x.audit()
	}
}

// cutOffLiars loses what is on its way to those who say nothing.
func (x *world) cutOffLiars() {
	for i, lies := range x.liar {
		if lies {
			x.cutOff(i)
		}
	}
}
