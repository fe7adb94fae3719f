package core

import (
	"gavel/api"
	"gavel/wire"
)

// handler does what a message asks for; false: it is to be dropped, and has changed nothing.
type handler func(r *Replica, m api.Signed, b api.Body) bool

// handlers are what the kinds of messages ask for. A replica is sent no replies and no proofs.
func handlers() [api.KindProof + 1]handler {
	return [api.KindProof + 1]handler{
		api.KindRequest: (*Replica).onRequest,
		api.KindPropose: (*Replica).onPropose,
		api.KindPrepare: (*Replica).onVote,
		api.KindCommit:  (*Replica).onVote,
		api.KindCheck:   (*Replica).onCheck,
		api.KindChange:  (*Replica).onChange,
		api.KindBegin:   (*Replica).onBegin,
		api.KindStatus:  (*Replica).onStatus,
		api.KindState:   (*Replica).onState,
		api.KindKept:    (*Replica).onKept,
		api.KindAsk:     (*Replica).onAsk,
	}
}

// Receive takes bytes: what is sent for them.
func (r *Replica) Receive(s string) []api.Sent {
	if !r.made() {
		return nil
	}
	if !r.take(s) {
		r.drops++
		return nil
	}
	r.goOn()
	return r.sent()
}

// take does what bytes ask for; false: they are to be dropped.
func (r *Replica) take(s string) bool {
	m, e := wire.OfSigned(s)
	if e != api.OK {
		return false
	}
	b, e := r.book.Open(m)
	if e != api.OK || !r.maySay(m.From, b) {
		return false
	}
	handle := handlers()[b.Kind] // what is opened has a kind that there is
	return handle != nil && handle(r, m, b)
}

// maySay tells whether a body may be somebody's. What a replica says itself does not come to it.
func (r *Replica) maySay(who int, b api.Body) bool {
	if b.Kind == api.KindRequest || b.Kind == api.KindAsk {
		return b.Client < r.config.Clients && who == api.FirstClient+b.Client
	}
	return r.has(who) && who != r.id
}

// goOn does all that what is known by now allows.
func (r *Replica) goOn() {
	r.join()
	r.open()
	for moved := true; moved; {
		r.lay()
		r.lead()
		r.vote()
		moved = r.execute() || r.settle()
	}
}

// sent is what the call under way sends.
func (r *Replica) sent() []api.Sent {
	out := r.out
	r.out = nil
	return out
}

// seal signs a body; false, if the book has no signature of this replica's.
func (r *Replica) seal(b api.Body) (api.Signed, bool) {
	m, e := r.book.Seal(r.id, b)
	return m, e == api.OK
}

// send sends a message to one.
func (r *Replica) send(to int, m api.Signed) {
	s, e := wire.PutSigned(m)
	if e == api.OK {
		r.out = append(r.out, api.Sent{To: to, Bytes: s})
	}
}

// say signs a body, and sends it to one.
func (r *Replica) say(to int, b api.Body) {
	if m, ok := r.seal(b); ok {
		r.send(to, m)
	}
}

// tell sends a message to all other replicas.
func (r *Replica) tell(m api.Signed) {
	for to := range r.size() {
		if to != r.id {
			r.send(to, m)
		}
	}
}
