package core

import (
	"gavel/api"
	"gavel/wire"
)

// pulse is every how many ticks a replica tells how far it is.
const pulse = 4

// mostDoublings is how often patience is doubled at most.
const mostDoublings = 16

// Tick lets time go on.
func (r *Replica) Tick() []api.Sent {
	if !r.made() {
		return nil
	}
	r.ticks++
	if !r.term.begun && r.wished() >= r.quorum() {
		r.term.stalled++
	}
	if r.isLate() {
		r.wish(r.log.View() + 1)
	}
	if r.ticks%pulse == 0 {
		r.tellStatus()
	}
	r.goOn()
	return r.sent()
}

// isLate tells whether what is waited for has taken too long in this view: that a request is executed, or that the view begins.
func (r *Replica) isLate() bool {
	patience := r.config.Patience << min(r.log.View(), mostDoublings)
	if !r.term.begun {
		return r.term.stalled > patience
	}
	for _, w := range r.waiting {
		if r.ticks-w.since > patience {
			return true
		}
	}
	return false
}

// tellStatus tells all others how far it is.
func (r *Replica) tellStatus() {
	b := api.Body{Kind: api.KindStatus, View: r.log.View(), Seq: r.done, Stamp: r.log.Low()}
	if r.term.begun {
		b.Client = 1
	}
	if m, ok := r.seal(b); ok {
		r.tell(m)
	}
}

// onStatus sends what lacks somebody. It is taken however often it comes, since what was sent for it may be lost.
func (r *Replica) onStatus(m api.Signed, b api.Body) bool {
	to := m.From
	r.sendState(to, b.Stamp)
	r.sendKept(to, b.Seq)
	if b.View < r.log.View() || b.View == r.log.View() && b.Client == 0 {
		r.sendView(to)
	}
	if b.View == r.log.View() {
		r.sendVotes(to, b.Seq)
	}
	r.sendCheck(to, b.Stamp)
	return true
}

// sendState sends the stable state, if it is above somebody's low number.
func (r *Replica) sendState(to, low int) {
	if r.stable.seq <= low {
		return
	}
	text, e := wire.PutRecords(r.stable.records)
	if e == api.OK {
		r.say(to, api.Body{Kind: api.KindState, Seq: r.stable.seq, Digest: r.stable.root, Text: text, List: r.stable.cert})
	}
}

// sendKept sends what is committed above what somebody executed.
func (r *Replica) sendKept(to, done int) {
	low := r.log.Low()
	for seq := low + 1; seq <= low+api.Window; seq++ {
		if b, ok := r.kept[seq]; ok && seq > done {
			r.say(to, b)
		}
	}
}

// sendView sends the message by which the view began, if it is its own; else its wish for it.
func (r *Replica) sendView(to int) {
	none := api.Signed{}
	switch {
	case r.term.begin != none:
		r.send(to, r.term.begin)
	case r.term.wish != none:
		r.send(to, r.term.wish)
	}
}

// sendVotes sends its proposals and votes of the view above what somebody executed. What is committed was sent with a quorum's votes, and what the view began with is in the message by which it began.
func (r *Replica) sendVotes(to, done int) {
	low := r.log.Low()
	for seq := low + 1; seq <= low+api.Window; seq++ {
		if _, has := r.kept[seq]; has || seq <= done {
			continue
		}
		_, batch, ok := r.log.Proposal(seq)
		if _, planned := r.term.plan[seq]; ok && r.leads() && !planned {
			l, _ := wire.OfBatch(batch) // it was laid by this replica
			r.say(to, api.Body{Kind: api.KindPropose, View: r.log.View(), Seq: seq, List: l})
		}
		for _, kind := range [...]int{api.KindPrepare, api.KindCommit} {
			if m, ok := r.log.Voted(kind, seq, r.id); ok {
				r.send(to, m)
			}
		}
	}
}

// sendCheck sends its last checkpoint, if that is above somebody's low number.
func (r *Replica) sendCheck(to, low int) {
	if b, e := wire.Of(r.check.Body); e == api.OK && b.Seq > low {
		r.send(to, r.check)
	}
}

// onKept takes a batch that is committed, and that lacks here.
func (r *Replica) onKept(_ api.Signed, b api.Body) bool {
	_, has := r.kept[b.Seq] // also what was executed, up to what is stable
	return !has && r.inWindow(b.Seq) && r.keep(b)
}
