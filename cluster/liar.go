package cluster

import (
	"gavel/api"
	"gavel/wire"
)

// doLiar lets a liar say something to a replica.
func (x *Cluster) doLiar(s api.Step) bool {
	switch s.Kind {
	case api.StepRaw:
		return x.raw(s)
	case api.StepPropose:
		return x.say(s, api.Body{Kind: api.KindPropose, View: s.View, Seq: s.Seq, List: x.requests(s.Clients)})
	case api.StepVote:
		return x.vote(s)
	case api.StepChange:
		return x.say(s, api.Body{Kind: api.KindChange, View: s.View, Seq: s.Seq, List: x.checks(s.Clients, s.Seq)})
	case api.StepBegin:
		return x.say(s, api.Body{Kind: api.KindBegin, View: s.View, List: x.wishes(s.Clients, s.View)})
	}
	return false
}

// raw lets a liar send whatever bytes.
func (x *Cluster) raw(s api.Step) bool {
	if len(s.Text) > api.MaxBytes {
		return false
	}
	x.send(s.From, []api.Sent{{To: s.To, Bytes: s.Text}})
	return true
}

// say lets a liar send a body that it signs; false, if layer 1 lays none such.
func (x *Cluster) say(s api.Step, b api.Body) bool {
	m, e := x.book.Seal(s.From, b)
	if e != api.OK {
		return false
	}
	text, e := wire.PutSigned(m)
	if e != api.OK {
		return false
	}
	x.send(s.From, []api.Sent{{To: s.To, Bytes: text}})
	return true
}

// vote lets a liar vote for a batch, or sign a checkpoint.
func (x *Cluster) vote(s api.Step) bool {
	kinds := [...]int{api.KindPrepare, api.KindCommit, api.KindCheck}
	b := api.Body{Kind: kinds[round(s.N, len(kinds))], View: s.View, Seq: s.Seq, Digest: "some"}
	text := s.Text
	if b.Kind == api.KindCheck {
		b.View = 0
	} else {
		text, _ = wire.Batch(x.requests(s.Clients)) // what was sent may be
	}
	if wire.Right(b) != api.OK { // asked ahead of the digest, since the book would number what is not sent
		return false
	}
	b.Digest = x.book.Digest(text)
	return x.say(s, b)
}

// requests are the last ones that these clients sent themselves, as many as a batch has.
func (x *Cluster) requests(whom []int) []api.Signed {
	l := x.last(whom, api.KindRequest, func(by letter, b api.Body) bool { return by.from == api.FirstClient+b.Client })
	return l[:min(len(l), api.MaxBatch)]
}

// checks are the last checkpoints of a number by these.
func (x *Cluster) checks(whom []int, seq int) []api.Signed {
	return x.last(whom, api.KindCheck, func(_ letter, b api.Body) bool { return b.Seq == seq })
}

// wishes are the last wishes for a view by these.
func (x *Cluster) wishes(whom []int, view int) []api.Signed {
	return x.last(whom, api.KindChange, func(_ letter, b api.Body) bool { return b.View == view })
}

// last are, of each of these who has one, the last message of a kind that fits, in their order.
func (x *Cluster) last(whom []int, kind int, fits func(letter, api.Body) bool) []api.Signed {
	found := x.find(whom, kind, fits)
	var l []api.Signed
	for _, who := range whom {
		if isSigner(who) && found[who].Body != "" {
			l = append(l, found[who])
		}
	}
	return l
}

// signed are messages by their signers.
type signed [api.MaxWho + 1]api.Signed

func isSigner(who int) bool { return 0 <= who && who <= api.MaxWho }

// find goes back through the mail, until all have what is looked for.
func (x *Cluster) find(whom []int, kind int, fits func(letter, api.Body) bool) signed {
	var found signed
	wanted, lack := wantedOf(whom)
	for i := len(x.sent) - 1; i >= 0 && lack > 0; i-- {
		m, e := wire.OfSigned(x.sent[i].bytes)
		if e != api.OK || !wanted[m.From] || !isKind(m, kind) {
			continue
		}
		if b, e := x.book.Open(m); e == api.OK && fits(x.sent[i], b) {
			found[m.From], wanted[m.From] = m, false
			lack--
		}
	}
	return found
}

// wantedOf is a set of signers, and how many there are in it.
func wantedOf(whom []int) ([api.MaxWho + 1]bool, int) {
	var wanted [api.MaxWho + 1]bool
	n := 0
	for _, who := range whom {
		if isSigner(who) && !wanted[who] {
			wanted[who] = true
			n++
		}
	}
	return wanted, n
}

// isKind tells by the body's first byte whether a message is of a kind: to open them all would take long.
func isKind(m api.Signed, kind int) bool {
	return len(m.Body) > 0 && int(m.Body[0]) == kind
}
