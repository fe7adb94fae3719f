package client

import (
	"gavel/api"
	"gavel/authn"
	"gavel/core"
	"gavel/merkle"
	"gavel/wire"
)

// Light is what a proof shows: the number of the state, the value at the key, and whether there is one.
type Light struct {
	Seq   int
	Value string
	Has   bool
}

// Ask asks what there is at a key of the stable state.
func (x *Client) Ask(key string) ([]api.Sent, api.Errno) {
	if !x.made() || len(key) < 1 || len(key) > api.MaxKey {
		return nil, api.ErrArg
	}
	s, e := x.signed(api.Body{Kind: api.KindAsk, Client: x.id, Text: key})
	if e != api.OK {
		return nil, e
	}
	return x.toAll(s), api.OK
}

// Verify tells what bytes show of a key: f + 1 of the consortium signed the state's root, and the proof leads to it. Who sent it does not count: it stands on their signatures alone.
func Verify(c api.Config, b *authn.Book, key, s string) (Light, api.Errno) {
	if !core.Fits(c) || !isBook(b) {
		return Light{}, api.ErrArg
	}
	_, x, e := opened(b, s)
	if e != api.OK {
		return Light{}, e
	}
	if x.Kind != api.KindProof {
		return Light{}, api.ErrKind
	}
	if b.Quorum(x.List, api.KindCheck, 0, x.Seq, x.Digest, size(c)) <= c.Faults {
		return Light{}, api.ErrSig
	}
	p, e := wire.OfProof(x.Text)
	if e != api.OK {
		return Light{}, e
	}
	value, has, e := merkle.Verify(b, x.Digest, key, p)
	if e != api.OK {
		return Light{}, e
	}
	return Light{Seq: x.Seq, Value: value, Has: has}, api.OK
}
