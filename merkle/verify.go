package merkle

import (
	"strings"

	"gavel/api"
	"gavel/authn"
	"gavel/wire"
)

// Verify tells what a proof shows of a key, against a root.
func Verify(b *authn.Book, to, key string, p api.Proof) (value string, has bool, e api.Errno) {
	if !isBook(b) {
		return "", false, api.ErrArg
	}
	if !isKey(key) {
		return "", false, api.ErrField
	}
	// The digests come last, so that a book numbers nothing for a proof that is wrong without them.
	if !isProof(p) || !shows(p, key) || !leads(b, to, p) {
		return "", false, api.ErrProof
	}
	if there(p, key) {
		return strings.Clone(p.Paths[0].Value), true, api.OK
	}
	return "", false, api.OK
}

// isProof tells whether a proof may be, and whether each of its paths has a place and as many sides as it must.
func isProof(p api.Proof) bool {
	if _, e := wire.PutProof(p); e != api.OK {
		return false
	}
	for _, x := range p.Paths {
		if x.Index >= p.Count || len(x.Sides) != height(x.Index, p.Count) {
			return false
		}
	}
	return true
}

// shows tells whether the paths, if they lead to the root, leave no doubt about the key.
func shows(p api.Proof, key string) bool {
	switch len(p.Paths) {
	case 0:
		return p.Count == 0
	case 1:
		x := p.Paths[0]
		return there(p, key) || x.Index == 0 && key < x.Key || x.Index == p.Count-1 && x.Key < key
	}
	low, high := p.Paths[0], p.Paths[1]
	return high.Index == low.Index+1 && low.Key < key && key < high.Key
}

func there(p api.Proof, key string) bool {
	return len(p.Paths) == 1 && p.Paths[0].Key == key
}

// leads tells whether all that the proof has leads to the root.
func leads(b *authn.Book, to string, p api.Proof) bool {
	if len(p.Paths) == 0 {
		return rootOf(b, 0, "") == to
	}
	for _, x := range p.Paths {
		leaf := leafOf(b, api.Record{Key: x.Key, Value: x.Value})
		if rootOf(b, p.Count, climb(b, leaf, x.Index, p.Count, x.Sides)) != to {
			return false
		}
	}
	return true
}
