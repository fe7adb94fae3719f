package vlog

import (
	"slices"
	"strings"

	"gavel/api"
)

// slot is what stands at a number of the window.
type slot struct {
	heard
	proof api.Body // of the highest view in which the number was prepared; Seq is 0, if it never was
}

// heard is what stands there of the log's view alone.
type heard struct {
	proposal          claim // the digest is empty, if there is none
	batch             string
	prepares, commits votes
}

// votes are those of a kind; nil, if that is no vote's.
func (h *heard) votes(kind int) *votes {
	switch kind {
	case api.KindPrepare:
		return &h.prepares
	case api.KindCommit:
		return &h.commits
	}
	return nil
}

func (h *heard) proposed() bool { return h.proposal.digest != "" }

// Propose notes a proposal.
func (l *Log) Propose(view, seq int, digest, batch string) api.Errno {
	if !l.made() || digest == "" {
		return api.ErrArg
	}
	s := l.open(view, seq)
	switch {
	case s == nil:
		return api.ErrWindow
	case s.proposal.digest == digest && s.batch == batch:
		return api.ErrTwice
	case s.proposed():
		return api.ErrClash
	}
	s.proposal, s.batch = claimed(seq, digest), strings.Clone(batch)
	l.prove(s)
	return api.OK
}

// Vote notes a prepare or a commit.
func (l *Log) Vote(m api.Signed, b api.Body) api.Errno {
	if !l.has(m.From) || b.Kind != api.KindPrepare && b.Kind != api.KindCommit {
		return api.ErrArg
	}
	s := l.open(b.View, b.Seq)
	if s == nil {
		return api.ErrWindow
	}
	v := s.votes(b.Kind)
	if ahead, ok := (*v)[m.From]; ok {
		if ahead.digest == b.Digest {
			return api.ErrTwice
		}
		return api.ErrClash
	}
	v.note(m, claimed(b.Seq, b.Digest))
	l.prove(s)
	return api.OK
}

// Proposal is a number's.
func (l *Log) Proposal(seq int) (digest, batch string, ok bool) {
	s := l.at(seq)
	if s == nil || !s.proposed() {
		return "", "", false
	}
	return s.proposal.digest, s.batch, true
}

// Prepared tells whether a number's proposal is prepared.
func (l *Log) Prepared(seq int) bool {
	s := l.at(seq)
	return s != nil && l.prepared(s)
}

// Committed tells whether it is committed.
func (l *Log) Committed(seq int) bool {
	s := l.at(seq)
	return s != nil && l.prepared(s) && l.quorum(s.commits, s.proposal) != nil
}

// Voted is somebody's vote.
func (l *Log) Voted(kind, seq, from int) (api.Signed, bool) {
	s := l.at(seq)
	if s == nil {
		return api.Signed{}, false
	}
	v := s.votes(kind)
	if v == nil {
		return api.Signed{}, false
	}
	x, ok := (*v)[from]
	return x.message, ok
}

// Kept are the proofs of what was prepared, in whatever view last, by their numbers.
func (l *Log) Kept() []api.Body {
	if !l.made() {
		return nil
	}
	var out []api.Body
	for _, s := range l.window.rising() {
		if s.proof.Seq > 0 {
			p := s.proof
			p.List = slices.Clone(p.List)
			out = append(out, p)
		}
	}
	return out
}

func (l *Log) prepared(s *slot) bool {
	return s.proposed() && l.quorum(s.prepares, s.proposal) != nil
}

// prove keeps the proof of a number that has become prepared. One of this view stays as it is, whoever votes later; one of a lower view gives way.
func (l *Log) prove(s *slot) {
	proved := s.proof.Seq > 0 && s.proof.View == l.view
	if proved || !l.prepared(s) {
		return
	}
	s.proof = api.Body{
		Kind:   api.KindKept,
		View:   l.view,
		Seq:    s.proposal.seq,
		Digest: s.proposal.digest,
		Text:   s.batch,
		List:   l.quorum(s.prepares, s.proposal),
	}
}
