package core

import (
	"gavel/api"
	"gavel/merkle"
	"gavel/wire"
)

// request is one that waits.
type request struct {
	message api.Signed
	stamp   int
	since   int // how many ticks there had been when it began to wait in this view
}

// onRequest lets a new request wait; the last one is answered again.
func (r *Replica) onRequest(m api.Signed, b api.Body) bool {
	last, reply := r.house.Last(b.Client)
	if b.Stamp == last {
		r.answer(b.Client, last, reply)
		return true
	}
	if b.Stamp < last || b.Stamp <= r.waiting[b.Client].stamp {
		return false
	}
	r.waiting[b.Client] = request{message: m, stamp: b.Stamp, since: r.ticks}
	r.sendOn(m)
	return true
}

// sendOn sends a client's request to the primary, as the client signed it.
func (r *Replica) sendOn(m api.Signed) {
	if !r.leads() {
		r.send(r.primary(), m)
	}
}

// renew lets all requests wait anew, when a view begins: it has its own time to do them, and its own primary.
func (r *Replica) renew() {
	for client := range r.config.Clients {
		if w, ok := r.waiting[client]; ok {
			w.since = r.ticks
			r.waiting[client] = w
			r.sendOn(w.message)
		}
	}
}

// answer tells a client what came of its request.
func (r *Replica) answer(client, stamp int, reply string) {
	r.say(api.FirstClient+client, api.Body{Kind: api.KindReply, View: r.log.View(), Client: client, Stamp: stamp, Text: reply})
}

// forget takes away the requests that wait in vain, since their clients' last stamps are as high.
func (r *Replica) forget() {
	for client, w := range r.waiting {
		if last, _ := r.house.Last(client); w.stamp <= last {
			delete(r.waiting, client)
		}
	}
}

// isRequest tells whether a message is a request, by the client in whose name it is.
func (r *Replica) isRequest(m api.Signed) (api.Body, bool) {
	b, e := r.book.Open(m)
	return b, e == api.OK && b.Kind == api.KindRequest && r.maySay(m.From, b)
}

// areRequests tells whether all of a batch are.
func (r *Replica) areRequests(l []api.Signed) bool {
	for _, m := range l {
		if _, ok := r.isRequest(m); !ok {
			return false
		}
	}
	return true
}

// lead proposes what waits, as far as the window goes.
func (r *Replica) lead() {
	if !r.term.begun || !r.leads() {
		return
	}
	for {
		seq, l := max(r.term.top, r.done)+1, r.unproposed()
		if len(l) == 0 || !r.inWindow(seq) || !r.propose(seq, l) {
			return
		}
	}
}

// unproposed are the first requests that wait and have no proposal in the view, by clients.
func (r *Replica) unproposed() []api.Signed {
	var l []api.Signed
	for client := range r.config.Clients {
		w, ok := r.waiting[client]
		if ok && w.stamp > r.term.proposed[client] && len(l) < api.MaxBatch {
			l = append(l, w.message)
		}
	}
	return l
}

// propose makes requests the proposal of a number; false, if it can not be.
func (r *Replica) propose(seq int, l []api.Signed) bool {
	view := r.log.View()
	m, ok := r.seal(api.Body{Kind: api.KindPropose, View: view, Seq: seq, List: l})
	batch, e := wire.Batch(l)
	if !ok || e != api.OK || r.log.Propose(view, seq, r.book.Digest(batch), batch) != api.OK {
		return false
	}
	r.term.top = seq
	r.count(l)
	r.tell(m)
	return true
}

// count notes that requests have a proposal.
func (r *Replica) count(l []api.Signed) {
	for _, m := range l {
		if b, ok := r.isRequest(m); ok {
			r.term.proposed[b.Client] = max(r.term.proposed[b.Client], b.Stamp)
		}
	}
}

// onAsk tells a client what there is at a key of the stable state, if there is such a state yet and the key may be.
func (r *Replica) onAsk(m api.Signed, b api.Body) bool {
	if r.stable.seq == 0 {
		return true
	}
	p, e := merkle.Prove(r.book, r.stable.records, b.Text)
	if e != api.OK {
		return true
	}
	text, e := wire.PutProof(p)
	if e == api.OK {
		signed := r.stable.cert[:r.config.Faults+1]
		r.say(m.From, api.Body{Kind: api.KindProof, Seq: r.stable.seq, Digest: r.stable.root, Text: text, List: signed})
	}
	return true
}
