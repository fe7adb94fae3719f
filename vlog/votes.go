package vlog

import (
	"cmp"
	"slices"
	"strings"

	"gavel/api"
)

// claim is what is proposed, voted for or signed as a checkpoint.
type claim struct {
	seq    int
	digest string
}

// claimed is a claim to be kept. Cloned, since a piece that is kept would keep all of the text around it.
func claimed(seq int, digest string) claim {
	return claim{seq: seq, digest: strings.Clone(digest)}
}

// vote is a claim, and the message that makes it.
type vote struct {
	claim
	message api.Signed
}

// votes are at most one of each replica.
type votes map[int]vote

// note keeps a replica's vote, in the place of one ahead.
func (v *votes) note(m api.Signed, c claim) {
	if *v == nil {
		*v = votes{}
	}
	m.Body, m.Sig = strings.Clone(m.Body), strings.Clone(m.Sig)
	(*v)[m.From] = vote{claim: c, message: m}
}

// alike are the messages that make a claim, by rising replicas.
func (v votes) alike(c claim) []api.Signed {
	var out []api.Signed
	for _, x := range v {
		if x.claim == c {
			out = append(out, x.message)
		}
	}
	// Sorted, as a map is gone through in any order.
	slices.SortFunc(out, func(a, b api.Signed) int { return cmp.Compare(a.From, b.From) })
	return out
}

// quorum is just a quorum of messages that make a claim, the first ones; nil, if there are fewer.
func (l *Log) quorum(v votes, c claim) []api.Signed {
	need := l.n - (l.n-1)/3
	said := v.alike(c)
	if len(said) < need {
		return nil
	}
	return said[:need]
}
