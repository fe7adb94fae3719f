package cluster

import (
	"gavel/api"
	"gavel/wire"
)

// calm is how many times over a round of calm delivers.
const calm = 3

// Do does a step of a script; false: there is nothing to do.
func (x *Cluster) Do(s api.Step) bool {
	if !x.made() {
		return false
	}
	switch s.Kind {
	case api.StepDeliver, api.StepDrop, api.StepTwice:
		return x.doMail(s)
	case api.StepTick:
		x.Tick()
		return true
	case api.StepCalm:
		x.Round(calm)
		return true
	case api.StepRequest, api.StepAsk:
		return x.isClient(s.From) && x.doClient(s)
	}
	return x.isReplica(s.From) && x.lies[s.From] && x.isReplica(s.To) && x.doLiar(s)
}

// round is a number's size, counted round so many.
func round(n, many int) int {
	size := uint(n)
	if n < 0 {
		size = -size // by unsigned numbers, since the lowest one's size is no int
	}
	return int(size % uint(many))
}

// doMail delivers, loses or doubles a piece of mail.
func (x *Cluster) doMail(s api.Step) bool {
	if len(x.net) == 0 {
		return false
	}
	at := round(s.N, len(x.net))
	switch s.Kind {
	case api.StepDeliver:
		x.hand(x.take(at))
	case api.StepDrop:
		x.take(at)
	default:
		x.post(x.net[at])
	}
	return true
}

// doClient lets a client ask for something to be done, or for a key.
func (x *Cluster) doClient(s api.Step) bool {
	var l []api.Sent
	var e api.Errno
	if s.Kind == api.StepRequest {
		op, _ := wire.PutOp(s.Op) // empty, if there are no bytes
		l, e = x.clients[s.From].Request(op)
	} else {
		l, e = x.clients[s.From].Ask(s.Text)
	}
	if e != api.OK {
		return false
	}
	if s.Kind == api.StepAsk {
		x.keys[s.From] = s.Text
	}
	x.send(api.FirstClient+s.From, l)
	return true
}
