package core

import (
	"gavel/api"
	"gavel/wire"
)

// plan is what a view has as a number's proposal from its beginning on.
type plan struct{ batch string }

// open begins the view that it leads, if a quorum wishes for just this one.
func (r *Replica) open() {
	if r.term.begun || !r.leads() {
		return
	}
	view := r.log.View()
	var wishes []wish
	var l []api.Signed
	for who := range r.size() {
		if w, ok := r.wishes[who]; ok && w.view == view && len(l) < r.quorum() {
			wishes = append(wishes, w)
			l = append(l, w.message)
		}
	}
	if len(l) < r.quorum() {
		return
	}
	m, ok := r.seal(api.Body{Kind: api.KindBegin, View: view, List: l})
	if !ok {
		return
	}
	r.tell(m)
	r.start(view, wishes)
	r.term.begin = m
}

// onBegin takes the beginning of a view.
func (r *Replica) onBegin(m api.Signed, b api.Body) bool {
	view := r.log.View()
	if m.From != b.View%r.size() || b.View < view || b.View == view && r.term.begun {
		return false
	}
	wishes, ok := r.wishesOf(b)
	if ok {
		r.start(b.View, wishes)
	}
	return ok
}

// wishesOf are the wishes with which a view is begun; false, if they are not a quorum's, or not all are right.
func (r *Replica) wishesOf(b api.Body) ([]wish, bool) {
	var out []wish
	last := -1
	for _, m := range b.List {
		x, e := r.book.Open(m)
		if e != api.OK || m.From <= last || !r.has(m.From) || x.Kind != api.KindChange || x.View != b.View {
			return nil, false
		}
		w, ok := r.wishOf(m, x)
		if !ok {
			return nil, false
		}
		last = m.From
		out = append(out, w)
	}
	return out, len(out) >= r.quorum()
}

// start lets a view begin.
func (r *Replica) start(view int, wishes []wish) {
	if view > r.log.View() {
		r.log.Enter(view)
		r.term = term{}
	}
	r.term.begun = true
	r.outdate(view)
	from := wishes[0]
	for _, w := range wishes {
		if w.low > from.low {
			from = w
		}
	}
	r.arrange(from.low, wishes)
	r.stand(from.low, from.root, from.cert)
	r.renew()
}

// arrange notes the proposals with which the view begins above a number: of each number what was prepared in the highest view, and nothing where nothing was.
func (r *Replica) arrange(base int, wishes []wish) {
	t := &r.term
	t.base, t.top = base, base
	best := map[int]api.Body{}
	for _, w := range wishes {
		for _, p := range w.proofs {
			if old, ok := best[p.Seq]; !ok || p.View > old.View {
				best[p.Seq] = p
			}
			t.top = max(t.top, p.Seq)
		}
	}
	t.plan = map[int]plan{}
	for seq := max(base, r.log.Low()) + 1; seq <= t.top; seq++ {
		batch, _ := wire.Batch(nil)
		if p, ok := best[seq]; ok {
			batch = p.Text
		}
		t.plan[seq] = plan{batch}
		l, _ := wire.OfBatch(batch) // read when the wish was
		r.count(l)
	}
}

// lay lays down the proposals with which the view began, as far as the window goes.
func (r *Replica) lay() {
	low := r.log.Low()
	for seq := low + 1; seq <= low+api.Window; seq++ {
		p, ok := r.term.plan[seq]
		if _, _, has := r.log.Proposal(seq); ok && !has {
			r.log.Propose(r.log.View(), seq, r.book.Digest(p.batch), p.batch)
		}
	}
}
