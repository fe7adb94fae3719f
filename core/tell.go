package core

import (
	"slices"

	"gavel/api"
	"gavel/authn"
	"gavel/merkle"
	"gavel/wire"
)

// keyChain is the key of the chain.
const keyChain = "chain"

// View is the view, and whether it has begun.
func (r *Replica) View() (int, bool) {
	if !r.made() {
		return 0, false
	}
	return r.log.View(), r.term.begun
}

// Done is up to which number it has executed all.
func (r *Replica) Done() int {
	if !r.made() {
		return 0
	}
	return r.done
}

// Low is up to which number all is stable.
func (r *Replica) Low() int {
	if !r.made() {
		return 0
	}
	return r.log.Low()
}

// Drops is how many messages were dropped.
func (r *Replica) Drops() int {
	if !r.made() {
		return 0
	}
	return r.drops
}

// History is all it has executed or taken over.
func (r *Replica) History() []api.Done {
	if !r.made() {
		return nil
	}
	return slices.Clone(r.history)
}

// Records are the state's: the house's, and the chain of all that was executed.
func (r *Replica) Records() []api.Record {
	if !r.made() {
		return nil
	}
	return Whole(r.house.Records(), r.chain)
}

// Root is the state's root.
func (r *Replica) Root() string {
	if !r.made() {
		return ""
	}
	root, _ := merkle.Root(r.book, r.Records()) // a house's records may be
	return root
}

// Whole is a house's records with a chain.
func Whole(l []api.Record, chain string) []api.Record {
	at := slices.IndexFunc(l, func(x api.Record) bool { return x.Key >= keyChain })
	if at < 0 {
		at = len(l)
	}
	return slices.Concat(l[:at], []api.Record{{Key: keyChain, Value: chain}}, l[at:])
}

// part is a house's records and a chain, out of the two together; false, if there is no chain.
func part(l []api.Record) (rest []api.Record, chain string, ok bool) {
	at := slices.IndexFunc(l, func(x api.Record) bool { return x.Key == keyChain })
	if at < 0 {
		return nil, "", false
	}
	return slices.Concat(l[:at], l[at+1:]), l[at].Value, true
}

// Link is the chain behind a batch.
func Link(b *authn.Book, chain, batch string) string {
	ahead, e := wire.PutText(chain)
	if e != api.OK {
		return ""
	}
	behind, e := wire.PutText(batch)
	if e != api.OK {
		return ""
	}
	return b.Digest(ahead + behind)
}
