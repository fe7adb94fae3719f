package core

import (
	"slices"

	"gavel/api"
	"gavel/wire"
)

// wish is a right one, as it was read.
type wish struct {
	message api.Signed
	view    int
	low     int          // what was stable
	root    string       // its root
	cert    []api.Signed // its checkpoints
	proofs  []api.Body   // of what was prepared above
}

// wish wishes for a view: up to there, no votes are given.
func (r *Replica) wish(view int) {
	if r.log.Enter(view) != api.OK { // there is none behind the last one
		return
	}
	r.term = term{}
	r.outdate(view - 1)
	l := slices.Clone(r.stable.cert)
	for _, p := range r.log.Kept() {
		s, _ := wire.Bytes(p) // what the log took were bodies
		l = append(l, api.Signed{Body: s})
	}
	b := api.Body{Kind: api.KindChange, View: view, Seq: r.log.Low(), List: l}
	m, ok := r.seal(b)
	w, right := r.wishOf(m, b)
	if !ok || !right {
		return
	}
	r.wishes[r.id], r.term.wish = w, m
	r.tell(m)
}

// outdate takes away the wishes for views up to this one.
func (r *Replica) outdate(view int) {
	for who, w := range r.wishes {
		if w.view <= view {
			delete(r.wishes, who)
		}
	}
}

// onChange takes a right wish of somebody who did not wish for as high a view.
func (r *Replica) onChange(m api.Signed, b api.Body) bool {
	view := r.log.View()
	if b.View < view || b.View == view && r.term.begun || b.View <= r.wishes[m.From].view {
		return false
	}
	w, ok := r.wishOf(m, b)
	if ok {
		r.wishes[m.From] = w
	}
	return ok
}

// join wishes for the highest view for which, or for higher ones, so many others wish that not all of them lie.
func (r *Replica) join() {
	var views []int // of its own wish, too, which is for no higher view
	for _, w := range r.wishes {
		views = append(views, w.view)
	}
	slices.Sort(views)
	if at := len(views) - 1 - r.config.Faults; at >= 0 && views[at] > r.log.View() {
		r.wish(views[at])
	}
}

// wished is how many wish for the view or for higher ones.
func (r *Replica) wished() int {
	n := 0
	for _, w := range r.wishes {
		if w.view >= r.log.View() {
			n++
		}
	}
	return n
}

// wishOf reads a wish; false, if it is not right.
func (r *Replica) wishOf(m api.Signed, b api.Body) (wish, bool) {
	if w, ok := r.wishes[m.From]; ok && w.message == m { // it was read already
		return w, true
	}
	w := wish{message: m, view: b.View, low: b.Seq}
	// Proofs have no signature, and checkpoints have one.
	at := slices.IndexFunc(b.List, func(x api.Signed) bool { return x.Sig == "" })
	if at < 0 {
		at = len(b.List)
	}
	return w, w.readCert(r, b.List[:at]) && w.readProofs(r, b.List[at:])
}

// readCert reads the checkpoints of the low number; false, if they are not a quorum's.
func (w *wish) readCert(r *Replica, l []api.Signed) bool {
	if w.low == 0 || len(l) == 0 {
		return w.low == 0 && len(l) == 0
	}
	first, e := wire.Of(l[0].Body)
	said := api.Body{Kind: api.KindCheck, Seq: w.low, Digest: first.Digest}
	if e != api.OK || !r.allSign(l, said) {
		return false
	}
	w.root, w.cert = first.Digest, r.cert(l, said)
	return true
}

// readProofs reads the proofs of what was prepared above the low number, by rising numbers; false, if one is not right.
func (w *wish) readProofs(r *Replica, l []api.Signed) bool {
	last := w.low
	for _, m := range l {
		b, e := wire.Of(m.Body)
		if e != api.OK || m.From != 0 || m.Sig != "" || b.Seq <= last || b.Seq > w.low+api.Window || b.View >= w.view || !r.isProof(b) {
			return false
		}
		last = b.Seq
		w.proofs = append(w.proofs, b)
	}
	return true
}

// isProof tells whether a body proves that its batch was prepared.
func (r *Replica) isProof(b api.Body) bool {
	return b.Kind == api.KindKept &&
		r.allSign(b.List, api.Body{Kind: api.KindPrepare, View: b.View, Seq: b.Seq, Digest: b.Digest}) &&
		r.isBatch(b.Text, b.Digest)
}

// isBatch tells whether a text is a batch of right requests, with this digest.
func (r *Replica) isBatch(text, digest string) bool {
	l, e := wire.OfBatch(text)
	return e == api.OK && r.areRequests(l) && r.book.Digest(text) == digest
}
