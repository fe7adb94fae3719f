package vlog_test

import (
	"fmt"
	"math"
	"reflect"
	"slices"
	"testing"

	"gavel/api"
	"gavel/vlog"
)

const (
	topView = 1 << 20 // the greatest view
	topCut  = 1 << 30 // the greatest low number
)

// quorums are the sizes that a consortium may have, and of each how many are a quorum.
func quorums() map[int]int { return map[int]int{4: 3, 7: 5, 10: 7, 13: 9} }

func newLog(t *testing.T, n int) *vlog.Log {
	t.Helper()
	l, e := vlog.New(n)
	if l == nil || e != api.OK {
		t.Fatalf("New(%d) = %v, %d", n, l, e)
	}
	return l
}

// logAt is a log of n in a view, with a low number.
func logAt(t *testing.T, n, view, low int) *vlog.Log {
	t.Helper()
	l := newLog(t, n)
	if view > 0 {
		wantEnter(t, l, "to begin", view, api.OK)
	}
	if low > 0 {
		wantCut(t, l, "to begin", low, api.OK)
	}
	return l
}

// said is a message by which a replica says a body. Unlike bodies have unlike messages.
func said(from int, b api.Body) api.Signed {
	return api.Signed{From: from, Body: fmt.Sprintf("%d %d %d %s", b.Kind, b.View, b.Seq, b.Digest), Sig: fmt.Sprintf("by %d", from)}
}

func prepare(view, seq int, digest string) api.Body {
	return api.Body{Kind: api.KindPrepare, View: view, Seq: seq, Digest: digest}
}

func commit(view, seq int, digest string) api.Body {
	return api.Body{Kind: api.KindCommit, View: view, Seq: seq, Digest: digest}
}

func check(seq int, root string) api.Body {
	return api.Body{Kind: api.KindCheck, Seq: seq, Digest: root}
}

// propose: a log takes a proposal.
func propose(t *testing.T, l *vlog.Log, view, seq int, digest, batch string) {
	t.Helper()
	if e := l.Propose(view, seq, digest, batch); e != api.OK {
		t.Fatalf("Propose(%d, %d, %q, %q) = %d", view, seq, digest, batch, e)
	}
}

// vote: a log takes a vote of each of these replicas.
func vote(t *testing.T, l *vlog.Log, b api.Body, from ...int) {
	t.Helper()
	for _, x := range from {
		if e := l.Vote(said(x, b), b); e != api.OK {
			t.Fatalf("Vote of %d for %+v = %d", x, b, e)
		}
	}
}

// sign: a log takes a checkpoint of each of these replicas.
func sign(t *testing.T, l *vlog.Log, b api.Body, from ...int) {
	t.Helper()
	for _, x := range from {
		if e := l.Check(said(x, b), b); e != api.OK {
			t.Fatalf("Check of %d for %+v = %d", x, b, e)
		}
	}
}

// upTo are the replicas 0 to n - 1.
func upTo(n int) []int {
	var l []int
	for i := range n {
		l = append(l, i)
	}
	return l
}

// proof is what is kept of a number that became prepared by the prepares of these replicas.
func proof(view, seq int, digest, batch string, from ...int) api.Body {
	b := api.Body{Kind: api.KindKept, View: view, Seq: seq, Digest: digest, Text: batch}
	for _, x := range from {
		b.List = append(b.List, said(x, prepare(view, seq, digest)))
	}
	return b
}

// far are numbers that are no view, number, kind or replica.
func far() []int {
	return []int{math.MinInt, math.MinInt + 1, -1 << 40, 1 << 40, math.MaxInt - 1, math.MaxInt}
}

// numbers are those of which tell asks: all around the window, and edges.
func numbers(l *vlog.Log) []int {
	out := far()
	for seq := l.Low() - 9; seq <= l.Low()+17; seq++ {
		out = append(out, seq)
	}
	return out
}

type ballot struct{ kind, seq, from int }

type offer struct{ digest, batch string }

// told is all that a log tells.
type told struct {
	view, low           int
	proposals           map[int]offer
	prepared, committed map[int]bool
	voted               map[ballot]api.Signed
	kept                []api.Body
	seq                 int
	root                string
	cert                []api.Signed
}

// tell asks a log for all of it, and also that what there is not is told as zero values.
func tell(t *testing.T, l *vlog.Log) told {
	t.Helper()
	x := told{view: l.View(), low: l.Low(), proposals: map[int]offer{}, prepared: map[int]bool{}, committed: map[int]bool{}, voted: map[ballot]api.Signed{}}
	for _, seq := range numbers(l) {
		if digest, batch, ok := l.Proposal(seq); ok {
			x.proposals[seq] = offer{digest, batch}
		} else if digest != "" || batch != "" {
			t.Errorf("Proposal(%d) = %q, %q, false", seq, digest, batch)
		}
		if l.Prepared(seq) {
			x.prepared[seq] = true
		}
		if l.Committed(seq) {
			x.committed[seq] = true
		}
		for kind := api.KindPropose; kind <= api.KindCheck; kind++ {
			for from := -1; from <= 14; from++ {
				if m, ok := l.Voted(kind, seq, from); ok {
					x.voted[ballot{kind, seq, from}] = m
				} else if m != (api.Signed{}) {
					t.Errorf("Voted(%d, %d, %d) = %+v, false", kind, seq, from, m)
				}
			}
		}
	}
	// None and an empty list are the same. Copied, so that what a log might do to its answers later is seen.
	x.kept = append([]api.Body{}, l.Kept()...)
	for i := range x.kept {
		x.kept[i].List = slices.Clone(x.kept[i].List)
	}
	seq, root, cert := l.Stable()
	x.seq, x.root, x.cert = seq, root, append([]api.Signed{}, cert...)
	return x
}

// wantTold: a log tells this.
func wantTold(t *testing.T, what string, got, want told) {
	t.Helper()
	if !reflect.DeepEqual(got, want) {
		t.Errorf("%s:\n%+v, want\n%+v", what, got, want)
	}
}

// wantStep: a step answers that error, and one that is refused changes nothing that the log tells.
func wantStep(t *testing.T, l *vlog.Log, what string, do func() api.Errno, want api.Errno) {
	t.Helper()
	before := tell(t, l)
	if e := do(); e != want {
		t.Errorf("%s = %d, want %d", what, e, want)
	}
	if want != api.OK {
		wantTold(t, what+" was refused", tell(t, l), before)
	}
}

func wantEnter(t *testing.T, l *vlog.Log, what string, view int, e api.Errno) {
	t.Helper()
	wantStep(t, l, fmt.Sprintf("%s: Enter(%d)", what, view), func() api.Errno { return l.Enter(view) }, e)
}

func wantCut(t *testing.T, l *vlog.Log, what string, seq int, e api.Errno) {
	t.Helper()
	wantStep(t, l, fmt.Sprintf("%s: Cut(%d)", what, seq), func() api.Errno { return l.Cut(seq) }, e)
}

func wantPropose(t *testing.T, l *vlog.Log, what string, view, seq int, digest, batch string, e api.Errno) {
	t.Helper()
	call := fmt.Sprintf("%s: Propose(%d, %d, %q, %q)", what, view, seq, digest, batch)
	wantStep(t, l, call, func() api.Errno { return l.Propose(view, seq, digest, batch) }, e)
}

func wantVote(t *testing.T, l *vlog.Log, what string, from int, b api.Body, e api.Errno) {
	t.Helper()
	call := fmt.Sprintf("%s: Vote of %d for %+v", what, from, b)
	wantStep(t, l, call, func() api.Errno { return l.Vote(said(from, b), b) }, e)
}

func wantCheck(t *testing.T, l *vlog.Log, what string, from int, b api.Body, e api.Errno) {
	t.Helper()
	call := fmt.Sprintf("%s: Check of %d for %+v", what, from, b)
	wantStep(t, l, call, func() api.Errno { return l.Check(said(from, b), b) }, e)
}

// wantState: a number is prepared and committed, or it is not.
func wantState(t *testing.T, l *vlog.Log, what string, seq int, prepared, committed bool) {
	t.Helper()
	if p, c := l.Prepared(seq), l.Committed(seq); p != prepared || c != committed {
		t.Errorf("%s: %d is prepared %v and committed %v, want %v and %v", what, seq, p, c, prepared, committed)
	}
}

func wantProposal(t *testing.T, l *vlog.Log, seq int, digest, batch string) {
	t.Helper()
	if d, b, ok := l.Proposal(seq); d != digest || b != batch || !ok {
		t.Errorf("Proposal(%d) = %q, %q, %v, want %q, %q", seq, d, b, ok, digest, batch)
	}
}

func wantKept(t *testing.T, l *vlog.Log, what string, want ...api.Body) {
	t.Helper()
	if got := append([]api.Body{}, l.Kept()...); !reflect.DeepEqual(got, append([]api.Body{}, want...)) {
		t.Errorf("%s: Kept() =\n%+v, want\n%+v", what, got, want)
	}
}

// wantStable: that checkpoint is stable by the messages of these replicas. A number 0: there is none.
func wantStable(t *testing.T, l *vlog.Log, what string, seq int, root string, from ...int) {
	t.Helper()
	want := []api.Signed{}
	for _, x := range from {
		want = append(want, said(x, check(seq, root)))
	}
	s, r, cert := l.Stable()
	if s != seq || r != root || !reflect.DeepEqual(append([]api.Signed{}, cert...), want) {
		t.Errorf("%s: Stable() = %d, %q, %+v, want %d, %q, %+v", what, s, r, cert, seq, root, want)
	}
}

// chance is a row of numbers that looks like chance and is always the same.
func chance(seed uint32) func(n int) int {
	return func(n int) int {
		seed = seed*1664525 + 1013904223
		return int(seed>>8) % n
	}
}
