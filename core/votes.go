package core

import (
	"slices"

	"gavel/api"
	"gavel/wire"
)

// onPropose takes the primary's first proposal of a number.
func (r *Replica) onPropose(m api.Signed, b api.Body) bool {
	if m.From != r.primary() || b.View != r.log.View() || !r.term.begun || b.Seq <= r.term.base || !r.inWindow(b.Seq) {
		return false
	}
	// Looked for ahead of the digest, since a book that numbers would number what is dropped.
	if _, _, has := r.log.Proposal(b.Seq); has || !r.areRequests(b.List) {
		return false
	}
	batch, e := wire.Batch(b.List)
	return e == api.OK && r.log.Propose(b.View, b.Seq, r.book.Digest(batch), batch) == api.OK
}

// onVote takes a prepare or a commit.
func (r *Replica) onVote(m api.Signed, b api.Body) bool {
	return r.log.Vote(m, b) == api.OK
}

// vote votes for the proposals of the view, and keeps what is committed. A view that has not begun has no proposals.
func (r *Replica) vote() {
	low := r.log.Low()
	for seq := low + 1; seq <= low+api.Window; seq++ {
		digest, batch, ok := r.log.Proposal(seq)
		if !ok {
			continue
		}
		if !r.voted(api.KindPrepare, seq) {
			r.cast(api.KindPrepare, seq, digest)
		}
		if !r.voted(api.KindCommit, seq) && r.log.Prepared(seq) {
			r.cast(api.KindCommit, seq, digest)
		}
		if _, has := r.kept[seq]; !has && r.log.Committed(seq) {
			r.keep(api.Body{View: r.log.View(), Seq: seq, Digest: digest, Text: batch, List: r.commits(seq)})
		}
	}
}

// voted tells whether its own vote has been given.
func (r *Replica) voted(kind, seq int) bool {
	_, has := r.log.Voted(kind, seq, r.id)
	return has
}

// cast gives its vote.
func (r *Replica) cast(kind, seq int, digest string) {
	b := api.Body{Kind: kind, View: r.log.View(), Seq: seq, Digest: digest}
	m, ok := r.seal(b)
	if ok && r.log.Vote(m, b) == api.OK {
		r.tell(m)
	}
}

// commits are all commits of a number.
func (r *Replica) commits(seq int) []api.Signed {
	var l []api.Signed
	for who := range r.size() {
		if m, ok := r.log.Voted(api.KindCommit, seq, who); ok {
			l = append(l, m)
		}
	}
	return l
}

// keep notes a batch as committed, if a quorum's commits are in its list, and it is right; false, if not.
func (r *Replica) keep(b api.Body) bool {
	cert := r.cert(b.List, api.Body{Kind: api.KindCommit, View: b.View, Seq: b.Seq, Digest: b.Digest})
	if cert == nil || !r.isBatch(b.Text, b.Digest) {
		return false
	}
	b.Kind, b.List = api.KindKept, cert
	r.kept[b.Seq] = b
	return true
}

// signers are the messages of a list by which replicas rightly say a thing (its Kind, View, Seq and Digest), one of each, by rising replicas.
func (r *Replica) signers(l []api.Signed, b api.Body) []api.Signed {
	var out []api.Signed
	for who := range r.size() {
		at := slices.IndexFunc(l, func(m api.Signed) bool {
			return m.From == who && r.book.Quorum([]api.Signed{m}, b.Kind, b.View, b.Seq, b.Digest, r.size()) == 1
		})
		if at >= 0 {
			out = append(out, l[at])
		}
	}
	return out
}

// cert is just a quorum of the signers of a thing; nil, if there are fewer.
func (r *Replica) cert(l []api.Signed, b api.Body) []api.Signed {
	said := r.signers(l, b)
	if len(said) < r.quorum() {
		return nil
	}
	return said[:r.quorum()]
}

// allSign tells whether a list is signers of a thing, a quorum or more, and nothing else. What is handed on may be no longer than it must: else a liar's list could make a message too long for all.
func (r *Replica) allSign(l []api.Signed, b api.Body) bool {
	return len(l) >= r.quorum() && len(r.signers(l, b)) == len(l)
}
