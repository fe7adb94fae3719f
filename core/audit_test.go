package core_test

import (
	"slices"

	"gavel/api"
	"gavel/core"
	"gavel/house"
	"gavel/merkle"
	"gavel/wire"
)

// row is what was executed at a number.
type row struct{ batch, chain string }

// audit (11.4 to 11.6): what honest replicas executed agrees number by number, was committed by a quorum in one view, and is requests that clients signed; the state of each is the house's behind it, and nothing else is kept that is stable.
func (x *world) audit() {
	x.t.Helper()
	rows := map[int]row{}
	for _, i := range x.honest() {
		x.wantHistory(i, rows)
		if what := x.all[i].Overkept(); what != "" {
			x.t.Fatalf("%d still keeps %s", i, what)
		}
	}
	replies := x.wantFold(rows)
	for _, r := range x.told {
		if want, has := replies[reply{0, r.client, r.stamp, ""}]; !has || want != r.text {
			x.t.Fatalf("%d answered %x to %d's %d, want %x, %v", r.who, r.text, r.client, r.stamp, want, has)
		}
	}
}

// wantHistory: a history's numbers rise without a gap but where a state was taken over, and agree with what others executed.
func (x *world) wantHistory(i int, rows map[int]row) {
	x.t.Helper()
	r, last := x.all[i], 0
	for _, d := range r.History() {
		if d.Adopted {
			if d.Seq <= last || d.Seq%4 != 0 || d.Batch != "" || d.Root == "" {
				x.t.Fatalf("%d took over %+v behind %d", i, d, last)
			}
			last = d.Seq
			continue
		}
		if d.Seq != last+1 || (d.Root != "") != (d.Seq%4 == 0) {
			x.t.Fatalf("%d executed %+v behind %d", i, d, last)
		}
		last = d.Seq
		if was, has := rows[d.Seq]; has && was != (row{d.Batch, d.Chain}) {
			x.t.Fatalf("%d executed %+v, another one %+v", i, d, was)
		}
		rows[d.Seq] = row{d.Batch, d.Chain}
		x.wantCommitted(i, d)
	}
	if last != r.Done() {
		x.t.Fatalf("%d has executed %d, its history goes to %d", i, r.Done(), last)
	}
	if low := r.Low(); low > r.Done() || low%4 != 0 {
		x.t.Fatalf("%d has executed %d, and %d is stable", i, r.Done(), low)
	}
}

// wantCommitted (11.5): a quorum has signed commits for what was executed, in one view.
func (x *world) wantCommitted(i int, d api.Done) {
	x.t.Helper()
	digest := x.book.Digest(d.Batch)
	for view := range 64 {
		if x.signed(api.KindCommit, view, d.Seq, digest) >= x.quorum() {
			return
		}
	}
	x.t.Fatalf("%d executed %+v, which no quorum committed", i, d)
}

// wantFold: the state of each is the house folded over what was executed up to there, with its chain. And what the house answered to each stamp.
func (x *world) wantFold(rows map[int]row) map[reply]string {
	x.t.Helper()
	replies := map[reply]string{}
	h, e := house.New(x.c.Clients, x.c.Goods)
	if e != api.OK {
		x.t.Fatal(e)
	}
	chain := ""
	x.wantStates(0, h, chain)
	for seq := 1; ; seq++ {
		d, has := rows[seq]
		if !has {
			break
		}
		l, e := wire.OfBatch(d.batch)
		if e != api.OK {
			x.t.Fatalf("%x is no batch: %d", d.batch, e)
		}
		for _, m := range l {
			if x.lawful[laid(x.t, m)] == 0 {
				x.t.Fatalf("no client asked for %+v", m)
			}
			b := x.opened(laid(x.t, m)).b
			if text, e := h.Do(b.Client, b.Stamp, b.Text); e == api.OK {
				replies[reply{0, b.Client, b.Stamp, ""}] = text
			}
		}
		chain = core.Link(x.book, chain, d.batch)
		if chain != d.chain {
			x.t.Fatalf("the chain behind %d is %x, want %x", seq, d.chain, chain)
		}
		x.wantStates(seq, h, chain)
		delete(rows, seq)
	}
	if len(rows) > 0 {
		x.t.Fatalf("nobody executed what is below %v", rows)
	}
	return replies
}

// wantStates: at a number the state of each that stands there, and each root that was told of it, are these.
func (x *world) wantStates(seq int, h *house.House, chain string) {
	x.t.Helper()
	want := core.Whole(h.Records(), chain)
	root, e := merkle.Root(x.book, want)
	if e != api.OK {
		x.t.Fatal(e)
	}
	for _, i := range x.honest() {
		r := x.all[i]
		if r.Done() == seq && (!slices.Equal(r.Records(), want) || r.Root() != root) {
			x.t.Fatalf("behind %d the state of %d is %q, want %q", seq, i, r.Records(), want)
		}
		for _, d := range r.History() {
			if d.Seq == seq && (d.Chain != chain || d.Root != "" && d.Root != root) {
				x.t.Fatalf("%d tells %+v, want the chain %x and the root %x", i, d, chain, root)
			}
		}
	}
}
