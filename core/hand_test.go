package core_test

import (
	"slices"

	"gavel/api"
	"gavel/core"
	"gavel/merkle"
	"gavel/wire"
)

// letter is what was sent, opened, and to whom.
type letter struct {
	to int
	spoken
}

// letters are what of a kind was sent.
func (x *world) letters(l []api.Sent, kind int) []letter {
	x.t.Helper()
	var out []letter
	for _, s := range l {
		if o := x.opened(s.Bytes); o.b.Kind == kind {
			out = append(out, letter{s.To, o})
		}
	}
	return out
}

// kinds are the kinds of what was sent, in order.
func (x *world) kinds(l []api.Sent) []int {
	x.t.Helper()
	var out []int
	for _, s := range l {
		out = append(out, x.opened(s.Bytes).b.Kind)
	}
	return out
}

// wantKinds: just these kinds were sent, in any order, each as often as it stands here.
func (x *world) wantKinds(what string, l []api.Sent, kinds ...int) {
	x.t.Helper()
	got := x.kinds(l)
	slices.Sort(got)
	slices.Sort(kinds)
	if !slices.Equal(got, kinds) {
		x.t.Errorf("%s: kinds %v were sent, want %v", what, got, kinds)
	}
}

// wantToOthers: a replica sent one body to all others, from the first one on, and nothing else of its kind.
func (x *world) wantToOthers(what string, from int, l []api.Sent, b api.Body) {
	x.t.Helper()
	var to []int
	want, _ := wire.Bytes(b)
	for _, o := range x.letters(l, b.Kind) {
		if o.m.Body != want || o.m.From != from {
			x.t.Errorf("%s: %d sent %+v, want %+v", what, o.m.From, o.b, b)
		}
		to = append(to, o.to)
	}
	var others []int
	for i := range x.n {
		if i != from {
			others = append(others, i)
		}
	}
	if !slices.Equal(to, others) {
		x.t.Errorf("%s: it was sent to %v, want %v", what, to, others)
	}
}

func vote(kind, view, seq int, digest string) api.Body {
	return api.Body{Kind: kind, View: view, Seq: seq, Digest: digest}
}

// votes hands a replica a vote of each of these.
func (x *world) votes(to int, b api.Body, from ...int) []api.Sent {
	x.t.Helper()
	var out []api.Sent
	for _, who := range from {
		out = append(out, x.give(to, x.bytesBy(who, b))...)
	}
	return out
}

// proposal is the primary's.
func (x *world) proposal(view, seq int, l ...api.Signed) string {
	x.t.Helper()
	return x.bytesBy(view%x.n, api.Body{Kind: api.KindPropose, View: view, Seq: seq, List: l})
}

// others are as many replicas beside one as make a quorum with it, from the first one on.
func (x *world) others(than int) []int {
	var l []int
	for i := range x.n {
		if i != than && len(l) < x.quorum()-1 {
			l = append(l, i)
		}
	}
	return l
}

// executes hands a replica all that it needs to execute a number in a view that it does not lead, by hand.
func (x *world) executes(to, view, seq int, l ...api.Signed) []api.Sent {
	x.t.Helper()
	_, digest := x.batch(l...)
	out := x.give(to, x.proposal(view, seq, l...))
	out = append(out, x.votes(to, vote(api.KindPrepare, view, seq, digest), x.others(to)...)...)
	out = append(out, x.votes(to, vote(api.KindCommit, view, seq, digest), x.others(to)...)...)
	if x.all[to].Done() != seq {
		x.t.Fatalf("%d has executed %d, want %d", to, x.all[to].Done(), seq)
	}
	return out
}

// upTo lets a replica execute numbers up to this one by hand, each with a request of client 0, in view 0. Behind each multiple of 4 the others agree with its root, if they are to.
func (x *world) upTo(to, last int, agree bool) {
	x.t.Helper()
	for seq := x.all[to].Done() + 1; seq <= last; seq++ {
		x.executes(to, 0, seq, x.ask(0, seq))
		if seq%4 == 0 && agree {
			x.votes(to, api.Body{Kind: api.KindCheck, Seq: seq, Digest: x.all[to].Root()}, x.others(to)...)
			if x.all[to].Low() != seq {
				x.t.Fatalf("%d is stable at %d, want %d", x.all[to].Low(), to, seq)
			}
		}
	}
}

// wantDropped (11.3): bytes change nothing at a replica, nothing is sent for them, and they count as dropped.
func (x *world) wantDropped(what string, to int, s string) {
	x.t.Helper()
	r := x.all[to]
	before, drops := pictureOf(r), r.Drops()
	if out := r.Receive(s); len(out) != 0 {
		x.t.Errorf("%s: kinds %v were sent for it", what, x.kinds(out))
	}
	if after := pictureOf(r); after != before {
		x.t.Errorf("%s: %+v, then %+v", what, before, after)
	}
	if r.Drops() != drops+1 {
		x.t.Errorf("%s: %d drops, then %d", what, drops, r.Drops())
	}
}

// wantTaken: bytes are not dropped; what is sent for them.
func (x *world) wantTaken(what string, to int, s string) []api.Sent {
	x.t.Helper()
	drops := x.all[to].Drops()
	out := x.give(to, s)
	if x.all[to].Drops() != drops {
		x.t.Errorf("%s: it was dropped", what)
	}
	return out
}

// wantView: a replica is in a view that has begun, or has not.
func (x *world) wantView(what string, who, view int, begun bool) {
	x.t.Helper()
	if v, on := x.all[who].View(); v != view || on != begun {
		x.t.Errorf("%s: %d is in view %d, begun %v, want %d, %v", what, who, v, on, view, begun)
	}
}

// signedBy are a body's messages by each of these.
func (x *world) signedBy(b api.Body, from ...int) []api.Signed {
	x.t.Helper()
	var l []api.Signed
	for _, who := range from {
		l = append(l, x.by(who, b))
	}
	return l
}

// proof is what shows that a batch was prepared, by these.
func (x *world) proof(view, seq int, l []api.Signed, from ...int) api.Body {
	x.t.Helper()
	text, digest := x.batch(l...)
	return api.Body{Kind: api.KindKept, View: view, Seq: seq, Digest: digest, Text: text, List: x.signedBy(vote(api.KindPrepare, view, seq, digest), from...)}
}

// wish is a wish for a view by hand, with these checkpoints of the low number, and these proofs.
func (x *world) wish(view, low int, cert []api.Signed, proofs ...api.Body) api.Body {
	x.t.Helper()
	b := api.Body{Kind: api.KindChange, View: view, Seq: low, List: slices.Clone(cert)}
	for _, p := range proofs {
		s, e := wire.Bytes(p)
		if e != api.OK {
			x.t.Fatalf("Bytes(%+v) = %d", p, e)
		}
		b.List = append(b.List, api.Signed{Body: s})
	}
	return b
}

// begin is the beginning of a view by hand.
func (x *world) begin(view int, wishes ...api.Signed) api.Body {
	return api.Body{Kind: api.KindBegin, View: view, List: wishes}
}

// stateOf is the body that hands a state over, by the checkpoints of these.
func (x *world) stateOf(seq int, l []api.Record, from ...int) api.Body {
	x.t.Helper()
	root, e := merkle.Root(x.book, l)
	if e != api.OK {
		x.t.Fatalf("Root(%q) = %d", l, e)
	}
	text, e := wire.PutRecords(l)
	if e != api.OK {
		x.t.Fatalf("PutRecords(%q) = %d", l, e)
	}
	return api.Body{Kind: api.KindState, Seq: seq, Digest: root, Text: text, List: x.signedBy(api.Body{Kind: api.KindCheck, Seq: seq, Digest: root}, from...)}
}

// keptOf is the body that hands a committed batch over, by the commits of these.
func (x *world) keptOf(view, seq int, l []api.Signed, from ...int) api.Body {
	x.t.Helper()
	text, digest := x.batch(l...)
	return api.Body{Kind: api.KindKept, View: view, Seq: seq, Digest: digest, Text: text, List: x.signedBy(vote(api.KindCommit, view, seq, digest), from...)}
}

// twin is a replica of another consortium with the same book and the same requests, behind so many numbers: what its state is told by.
func (x *world) twin(numbers int) *core.Replica {
	x.t.Helper()
	y := newWorld(x.t, x.c)
	y.book = x.book
	for i := range y.all {
		r, e := core.New(x.c, i, x.book)
		if e != api.OK {
			x.t.Fatal(e)
		}
		y.all[i] = r
	}
	y.upTo(1, numbers, true)
	return y.all[1]
}
