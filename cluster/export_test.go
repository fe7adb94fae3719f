package cluster

import "gavel/api"

// Mail is what is on its way, in order.
func (x *Cluster) Mail() []api.Sent {
	var l []api.Sent
	for _, m := range x.net {
		l = append(l, api.Sent{To: m.to, Bytes: m.bytes})
	}
	return l
}

// Piece is one of the mail on its way.
func (x *Cluster) Piece(at int) api.Sent {
	return api.Sent{To: x.net[at].to, Bytes: x.net[at].bytes}
}

// Remembered is how much of what was sent is remembered.
func (x *Cluster) Remembered() int { return len(x.sent) }
