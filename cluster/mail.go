package cluster

import (
	"gavel/api"
	"gavel/client"
)

// mostTimes is how many times over a round delivers at most.
const mostTimes = 100

// letter is a piece of mail: from and to replicas, and, from FirstClient on, clients.
type letter struct {
	from, to int
	bytes    string
}

// send lays what somebody sends on its way.
func (x *Cluster) send(from int, l []api.Sent) {
	for _, s := range l {
		m := letter{from: from, to: s.To, bytes: s.Bytes}
		x.post(m)
		x.remember(m)
	}
}

// post lays a piece of mail behind all others, or loses it.
func (x *Cluster) post(m letter) {
	if len(x.net) < MaxNet {
		x.net = append(x.net, m)
	}
}

// remember keeps a piece of mail for those who look for what was sent.
func (x *Cluster) remember(m letter) {
	if len(x.sent) == MaxNet {
		x.sent = x.sent[1:]
	}
	x.sent = append(x.sent, m)
}

// take takes a piece of mail off its way.
func (x *Cluster) take(at int) letter {
	m := x.net[at]
	x.net = without(x.net, at)
	return m
}

// without is a list of mail without one of its pieces. What stands ahead of that has no room behind it, so that the rest is joined to it in new memory, and nothing is written over.
func without(l []letter, at int) []letter {
	if at == 0 { // a round takes the first one again and again: nothing has to move
		return l[1:]
	}
	return append(l[:at:at], l[at+1:]...)
}

// hand delivers a piece of mail.
func (x *Cluster) hand(m letter) {
	if m.to >= api.FirstClient {
		k := m.to - api.FirstClient
		x.clients[k].Receive(m.bytes)
		x.look(k, m.bytes)
	} else if x.listens(m.to) {
		x.send(m.to, x.replicas[m.to].Receive(m.bytes))
	}
}

// listens tells whether a replica takes mail, and has ticks.
func (x *Cluster) listens(i int) bool { return !x.mute || !x.lies[i] }

// look lets a client that has asked verify what it is sent.
func (x *Cluster) look(k int, s string) {
	key := x.keys[k]
	if key == "" {
		return
	}
	v, e := client.Verify(x.config, x.book, key, s)
	switch e {
	case api.OK:
		x.shown = append(x.shown, Shown{Key: key, Seq: v.Seq, Value: v.Value, Has: v.Has})
	case api.ErrKind: // no proof: a reply, mostly
	default:
		x.refused++
	}
}

// Tick lets time go on for all.
func (x *Cluster) Tick() {
	if !x.made() {
		return
	}
	x.time++
	for i, r := range x.replicas {
		if x.listens(i) {
			x.send(i, r.Tick())
		}
	}
	for k, y := range x.clients {
		x.send(api.FirstClient+k, y.Tick())
	}
}

// Round lets time go on, and delivers all that is on its way then, and what comes of it, so many times.
func (x *Cluster) Round(times int) {
	if !x.made() {
		return
	}
	x.Tick()
	for range min(times, mostTimes) {
		for range len(x.net) {
			x.hand(x.take(0))
		}
	}
}
