package vlog_test

import (
	"fmt"
	"math"
	"strings"
	"testing"

	"gavel/api"
)

// The example of the chapter.
func TestExample(t *testing.T) {
	l := newLog(t, 4)
	propose(t, l, 0, 1, "d", "b")
	vote(t, l, prepare(0, 1, "d"), 0, 1)
	vote(t, l, prepare(0, 1, "x"), 3)
	wantState(t, l, "two and another one", 1, false, false)
	wantKept(t, l, "two and another one")
	vote(t, l, prepare(0, 1, "d"), 2)
	wantState(t, l, "three", 1, true, false)
	wantKept(t, l, "three", proof(0, 1, "d", "b", 0, 1, 2))
}

// 10.2
func TestPropose(t *testing.T) {
	l := newLog(t, 4)
	long := strings.Repeat("x", 1<<20)
	want := map[int]offer{1: {"d", "b"}, 2: {"d", "b"}, 3: {"e", ""}, 5: {"\x00", "\x00"}, 6: {long, long + "y"}, 8: {"d", "c"}}
	for seq, x := range want {
		propose(t, l, 0, seq, x.digest, x.batch)
	}
	for seq := 1; seq <= 8; seq++ {
		d, b, ok := l.Proposal(seq)
		if x, there := want[seq]; d != x.digest || b != x.batch || ok != there {
			t.Errorf("Proposal(%d) = %.9q, %.9q, %v, want %.9q, %.9q, %v", seq, d, b, ok, x.digest, x.batch, there)
		}
	}
}

// 10.2: numbers of the window of the log's view, and none else.
func TestProposeAtTheEdges(t *testing.T) {
	for _, view := range []int{0, 3, topView} {
		for _, low := range []int{0, 4, 8, topCut} {
			l := logAt(t, 7, view, low)
			for _, seq := range append(far(), low-8, low-1, low, low+9, low+10, low+16, -low-1) {
				wantPropose(t, l, "outside", view, seq, "d", "b", api.ErrWindow)
			}
			for _, v := range append(far(), view-1, view+1, -view-1, topView+1) {
				wantPropose(t, l, "another view", v, low+1, "d", "b", api.ErrWindow)
				wantPropose(t, l, "another view, outside", v, low+9, "d", "b", api.ErrWindow)
			}
			for seq := low + 8; seq > low; seq-- {
				wantPropose(t, l, "within", view, seq, "d", "b", api.OK)
				wantProposal(t, l, seq, "d", "b")
			}
		}
	}
}

// 10.2: the digest and the batch are the proposal, one as much as the other.
func TestProposeAgain(t *testing.T) {
	l := logAt(t, 4, 2, 4)
	propose(t, l, 2, 5, "d", "b")
	propose(t, l, 2, 6, "d", "")
	wantPropose(t, l, "the same", 2, 5, "d", "b", api.ErrTwice)
	wantPropose(t, l, "the same", 2, 5, "d", "b", api.ErrTwice)
	wantPropose(t, l, "the same", 2, 6, "d", "", api.ErrTwice)
	for _, x := range []offer{{"e", "b"}, {"d", "c"}, {"d", ""}, {"e", "c"}, {"b", "d"}, {"d", "bb"}, {"dd", "b"}, {"db", ""}, {"D", "b"}} {
		wantPropose(t, l, "another one", 2, 5, x.digest, x.batch, api.ErrClash)
	}
	wantPropose(t, l, "another one", 2, 6, "d", "b", api.ErrClash)
	wantProposal(t, l, 5, "d", "b")
	wantPropose(t, l, "at another number", 2, 7, "d", "b", api.OK)
	// Votes do not make another proposal of it.
	vote(t, l, prepare(2, 5, "e"), 0, 1, 2, 3)
	wantPropose(t, l, "what all vote for", 2, 5, "e", "b", api.ErrClash)
	wantPropose(t, l, "the same behind votes", 2, 5, "d", "b", api.ErrTwice)
}

// 10.2: ErrArg is told ahead of ErrWindow, and that ahead of ErrTwice and ErrClash.
func TestProposeTellsTheFirstError(t *testing.T) {
	l := logAt(t, 4, 2, 4)
	propose(t, l, 2, 5, "d", "b")
	for _, view := range []int{2, 1, 3, -1, math.MaxInt} {
		for _, seq := range []int{5, 6, 4, 13, -1, math.MinInt} {
			wantPropose(t, l, "no digest", view, seq, "", "b", api.ErrArg)
			wantPropose(t, l, "no digest, no batch", view, seq, "", "", api.ErrArg)
		}
	}
	wantPropose(t, l, "the same in another view", 1, 5, "d", "b", api.ErrWindow)
	wantPropose(t, l, "another one in another view", 3, 5, "e", "b", api.ErrWindow)
	wantCut(t, l, "on", 8, api.OK)
	wantPropose(t, l, "the same, that was cut off", 2, 5, "d", "b", api.ErrWindow)
	wantPropose(t, l, "another one, where one was cut off", 2, 5, "e", "b", api.ErrWindow)
}

// 10.2: who may vote.
func TestWhoVotes(t *testing.T) {
	for n := range quorums() {
		l := newLog(t, n)
		for _, from := range append(far(), -100, -1, n, n+1, 100, 255) {
			wantVote(t, l, "no replica", from, prepare(0, 1, "d"), api.ErrArg)
			wantVote(t, l, "no replica", from, commit(0, 1, "d"), api.ErrArg)
		}
		for from := range n {
			wantVote(t, l, "a replica", from, prepare(0, 1, "d"), api.OK)
			wantVote(t, l, "a replica", from, commit(0, 1, "d"), api.OK)
		}
	}
}

// 10.2: a prepare and a commit are votes; nothing else is.
func TestKindsOfVotes(t *testing.T) {
	l := newLog(t, 4)
	kinds := far()
	for kind := -3; kind <= 16; kind++ {
		kinds = append(kinds, kind)
	}
	for _, kind := range kinds {
		b := prepare(0, 1, "d")
		b.Kind = kind
		want := api.ErrArg
		if kind == api.KindPrepare || kind == api.KindCommit {
			want = api.OK
		}
		wantVote(t, l, "a kind", 1, b, want)
		m, ok := l.Voted(kind, 1, 1)
		if ok != (want == api.OK) || ok && m != said(1, b) {
			t.Errorf("Voted(%d, 1, 1) = %+v, %v", kind, m, ok)
		}
	}
}

// 10.2: numbers of the window of the log's view, and none else.
func TestVoteAtTheEdges(t *testing.T) {
	for _, view := range []int{0, 3, topView} {
		for _, low := range []int{0, 4, 8, topCut} {
			l := logAt(t, 4, view, low)
			for _, ballots := range []func(view, seq int, digest string) api.Body{prepare, commit} {
				for _, seq := range append(far(), low-8, low-1, low, low+9, low+10, low+16, -low-1) {
					wantVote(t, l, "outside", 1, ballots(view, seq, "d"), api.ErrWindow)
				}
				for _, v := range append(far(), view-1, view+1, -view-1, topView+1) {
					wantVote(t, l, "another view", 1, ballots(v, low+1, "d"), api.ErrWindow)
					wantVote(t, l, "another view, outside", 1, ballots(v, low+9, "d"), api.ErrWindow)
				}
				for seq := low + 8; seq > low; seq-- {
					b := ballots(view, seq, "d")
					wantVote(t, l, "within", 1, b, api.OK)
					if m, ok := l.Voted(b.Kind, seq, 1); !ok || m != said(1, b) {
						t.Errorf("Voted(%d, %d, 1) = %+v, %v", b.Kind, seq, m, ok)
					}
				}
			}
		}
	}
}

// 10.2: a replica votes once a kind and a number.
func TestVoteAgain(t *testing.T) {
	l := logAt(t, 4, 2, 4)
	vote(t, l, prepare(2, 5, "d"), 1)
	wantVote(t, l, "the same", 1, prepare(2, 5, "d"), api.ErrTwice)
	wantVote(t, l, "another digest", 1, prepare(2, 5, "e"), api.ErrClash)
	wantVote(t, l, "no digest", 1, prepare(2, 5, ""), api.ErrClash)
	wantVote(t, l, "a longer digest", 1, prepare(2, 5, "dd"), api.ErrClash)
	wantVote(t, l, "the same behind another one", 1, prepare(2, 5, "d"), api.ErrTwice)
	wantVote(t, l, "another kind, another digest", 1, commit(2, 5, "e"), api.OK)
	wantVote(t, l, "another kind again", 1, commit(2, 5, "e"), api.ErrTwice)
	wantVote(t, l, "another kind, the prepare's digest", 1, commit(2, 5, "d"), api.ErrClash)
	wantVote(t, l, "another number", 1, prepare(2, 6, "e"), api.OK)
	wantVote(t, l, "another replica", 2, prepare(2, 5, "e"), api.OK)
	// A digest that is empty is one, and a vote for it is a vote.
	wantVote(t, l, "for nothing", 3, prepare(2, 5, ""), api.OK)
	wantVote(t, l, "for nothing again", 3, prepare(2, 5, ""), api.ErrTwice)
	wantVote(t, l, "for nothing, then for something", 3, prepare(2, 5, "d"), api.ErrClash)
}

// 10.2: what is neither From nor Kind, View, Seq and Digest makes no other vote; the message that came first is the one.
func TestVotesAreTakenAsTheyAre(t *testing.T) {
	l := newLog(t, 4)
	odd := api.Body{Kind: api.KindPrepare, Seq: 1, Client: -7, Stamp: math.MaxInt, Digest: strings.Repeat("d", 99), Text: "text", List: []api.Signed{{From: 9}}}
	first := api.Signed{From: 2, Body: "not a body's bytes", Sig: ""}
	for i, x := range []struct {
		m    api.Signed
		b    api.Body
		want api.Errno
	}{
		{first, odd, api.OK},
		{first, odd, api.ErrTwice},
		{api.Signed{From: 2, Body: "other", Sig: "signed"}, odd, api.ErrTwice},
		{api.Signed{From: 2}, prepare(0, 1, odd.Digest), api.ErrTwice},
		{first, prepare(0, 1, "d"), api.ErrClash},
		{api.Signed{From: 3}, prepare(0, 1, odd.Digest), api.OK},
	} {
		wantStep(t, l, fmt.Sprintf("vote %d", i), func() api.Errno { return l.Vote(x.m, x.b) }, x.want)
	}
	if m, ok := l.Voted(api.KindPrepare, 1, 2); !ok || m != first {
		t.Errorf("Voted = %+v, %v", m, ok)
	}
	if m, ok := l.Voted(api.KindPrepare, 1, 3); !ok || m != (api.Signed{From: 3}) {
		t.Errorf("Voted = %+v, %v", m, ok)
	}
	if odd.List[0] != (api.Signed{From: 9}) {
		t.Errorf("a list that was handed in is %+v", odd.List)
	}
}

// 10.2: ErrArg is told ahead of ErrWindow, and that ahead of ErrTwice and ErrClash.
func TestVoteTellsTheFirstError(t *testing.T) {
	l := logAt(t, 4, 2, 4)
	vote(t, l, prepare(2, 5, "d"), 1)
	for _, seq := range []int{5, 6, 4, 13, -1} {
		for _, view := range []int{2, 1, 3} {
			wantVote(t, l, "no replica", 4, prepare(view, seq, "d"), api.ErrArg)
			wantVote(t, l, "no replica", -1, commit(view, seq, "d"), api.ErrArg)
			wantVote(t, l, "no vote", 1, api.Body{Kind: api.KindPropose, View: view, Seq: seq, Digest: "d"}, api.ErrArg)
			wantVote(t, l, "no vote", 1, api.Body{Kind: api.KindCheck, View: view, Seq: seq, Digest: "d"}, api.ErrArg)
			wantVote(t, l, "neither", 4, api.Body{Kind: 14, View: view, Seq: seq, Digest: "d"}, api.ErrArg)
		}
	}
	wantVote(t, l, "the same in another view", 1, prepare(1, 5, "d"), api.ErrWindow)
	wantVote(t, l, "another digest in another view", 1, prepare(3, 5, "e"), api.ErrWindow)
	wantCut(t, l, "on", 8, api.OK)
	wantVote(t, l, "the same, that was cut off", 1, prepare(2, 5, "d"), api.ErrWindow)
	wantVote(t, l, "another digest, where one was cut off", 1, prepare(2, 5, "e"), api.ErrWindow)
}

// 10.2: a quorum less one is none; whose votes they are, and in which order they come, is all the same.
func TestQuorumOfEachSize(t *testing.T) {
	for n, q := range quorums() {
		for first := range n {
			l := newLog(t, n)
			propose(t, l, 0, 3, "d", "b")
			for i := range n {
				wantState(t, l, "prepares", 3, i >= q, false)
				vote(t, l, prepare(0, 3, "d"), (first+i*(n-1))%n)
			}
			for i := range n {
				wantState(t, l, "commits", 3, true, i >= q)
				vote(t, l, commit(0, 3, "d"), (first+i)%n)
			}
			wantState(t, l, "all", 3, true, true)
			wantState(t, l, "another number", 4, false, false)
		}
	}
}

// 10.2: votes for another digest do not count, though a quorum has voted, or agrees on it.
func TestQuorumForAnotherDigest(t *testing.T) {
	for n, q := range quorums() {
		l := newLog(t, n)
		propose(t, l, 0, 1, "d", "b")
		propose(t, l, 0, 2, "d", "b")
		vote(t, l, prepare(0, 1, "d"), upTo(q-1)...)
		for from := q - 1; from < n; from++ {
			vote(t, l, prepare(0, 1, "x"), from)
		}
		vote(t, l, prepare(0, 2, "x"), upTo(n)...)
		vote(t, l, commit(0, 1, "d"), upTo(n)...)
		vote(t, l, commit(0, 2, "x"), upTo(n)...)
		wantState(t, l, "a quorum less one", 1, false, false)
		wantState(t, l, "all for another one", 2, false, false)
		wantKept(t, l, "none")
		propose(t, l, 0, 3, "d", "b")
		vote(t, l, prepare(0, 3, "d"), upTo(q)...)
		vote(t, l, commit(0, 3, "d"), upTo(q-1)...)
		for from := q - 1; from < n; from++ {
			vote(t, l, commit(0, 3, "x"), from)
		}
		wantState(t, l, "commits of a quorum less one", 3, true, false)
		propose(t, l, 0, 4, "d", "b")
		vote(t, l, prepare(0, 4, "d"), upTo(q)...)
		vote(t, l, commit(0, 4, "x"), upTo(n)...)
		wantState(t, l, "commits of all for another one", 4, true, false)
	}
}

// 10.2: prepares and commits are counted each for themselves, and a vote at one number is none at another one.
func TestPreparesAndCommitsApart(t *testing.T) {
	for n, q := range quorums() {
		l := newLog(t, n)
		for seq := 1; seq <= 8; seq++ {
			propose(t, l, 0, seq, "d", "b")
		}
		vote(t, l, commit(0, 1, "d"), upTo(n)...)
		wantState(t, l, "commits alone", 1, false, false)
		vote(t, l, prepare(0, 1, "d"), upTo(q-1)...)
		wantState(t, l, "commits, and prepares of a quorum less one", 1, false, false)
		vote(t, l, prepare(0, 1, "d"), n-1)
		wantState(t, l, "commits, then prepares", 1, true, true)
		vote(t, l, prepare(0, 2, "d"), upTo(n)...)
		wantState(t, l, "prepares alone", 2, true, false)
		// Prepares of some and commits of the others are a quorum of neither.
		for from := range n {
			if from < q-1 {
				vote(t, l, prepare(0, 3, "d"), from)
			} else {
				vote(t, l, commit(0, 3, "d"), from)
			}
			vote(t, l, prepare(0, 4+from%4, "d"), from)
		}
		for seq := 3; seq <= 7; seq++ {
			wantState(t, l, "here some and there some", seq, false, false)
		}
	}
}

// 10.2: votes may come ahead of the proposal; as that comes, they count.
func TestVotesAheadOfTheProposal(t *testing.T) {
	for n, q := range quorums() {
		l := newLog(t, n)
		vote(t, l, prepare(0, 1, "d"), upTo(q)...)
		vote(t, l, commit(0, 1, "d"), upTo(q)...)
		vote(t, l, prepare(0, 2, "d"), upTo(q-1)...)
		vote(t, l, prepare(0, 3, "d"), upTo(q)...)
		vote(t, l, prepare(0, 4, ""), upTo(n)...)
		vote(t, l, commit(0, 4, ""), upTo(n)...)
		for seq := 1; seq <= 4; seq++ {
			wantState(t, l, "no proposal", seq, false, false)
		}
		wantKept(t, l, "no proposal")
		wantPropose(t, l, "no digest, as all voted", 0, 4, "", "", api.ErrArg)
		propose(t, l, 0, 1, "d", "b1")
		propose(t, l, 0, 2, "d", "b2")
		propose(t, l, 0, 3, "e", "b3")
		propose(t, l, 0, 4, "d", "b4")
		wantState(t, l, "a quorum of both", 1, true, true)
		wantState(t, l, "a quorum less one", 2, false, false)
		wantState(t, l, "a quorum for another digest", 3, false, false)
		wantState(t, l, "all for none", 4, false, false)
		wantKept(t, l, "a quorum", proof(0, 1, "d", "b1", upTo(q)...))
		vote(t, l, prepare(0, 2, "d"), q-1)
		wantKept(t, l, "one more", proof(0, 1, "d", "b1", upTo(q)...), proof(0, 2, "d", "b2", upTo(q)...))
	}
}

// 10.2: of what is told within the window nothing is told outside of it, of another kind or of no replica.
func TestToldOutsideOfTheWindow(t *testing.T) {
	l := full(t, 4)
	within := func(seq int) bool { return 4 < seq && seq <= 12 }
	kinds, froms := append(far(), 0), append(far(), -1)
	for i := range 20 {
		kinds, froms = append(kinds, i), append(froms, i)
	}
	for _, seq := range numbers(l) {
		_, _, ok := l.Proposal(seq)
		if ok != within(seq) || l.Prepared(seq) != ok || l.Committed(seq) != ok {
			t.Errorf("of %d there is %v, %v, %v", seq, ok, l.Prepared(seq), l.Committed(seq))
		}
		for _, kind := range kinds {
			for _, from := range froms {
				m, ok := l.Voted(kind, seq, from)
				votes := kind == api.KindPrepare || kind == api.KindCommit
				if ok != (votes && within(seq) && 0 <= from && from < 4) || !ok && m != (api.Signed{}) {
					t.Fatalf("Voted(%d, %d, %d) = %+v, %v", kind, seq, from, m, ok)
				}
			}
		}
	}
}

// 10.5: by rising numbers, however they came to be prepared.
func TestKeptRises(t *testing.T) {
	for _, low := range []int{0, 4, 20} {
		l := logAt(t, 4, 0, low)
		for _, i := range []int{8, 2, 5, 1, 7} {
			propose(t, l, 0, low+i, "d", fmt.Sprint(i))
			vote(t, l, prepare(0, low+i, "d"), 3, 1, 0)
		}
		propose(t, l, 0, low+3, "d", "not prepared")
		vote(t, l, prepare(0, low+3, "d"), 0, 1)
		var want []api.Body
		for _, i := range []int{1, 2, 5, 7, 8} {
			want = append(want, proof(0, low+i, "d", fmt.Sprint(i), 0, 1, 3))
		}
		wantKept(t, l, "some", want...)
		wantCut(t, l, "on", low+4, api.OK)
		propose(t, l, 0, low+12, "d", "12")
		vote(t, l, prepare(0, low+12, "d"), 0, 2, 3)
		propose(t, l, 0, low+9, "d", "9")
		vote(t, l, prepare(0, low+9, "d"), 3, 1, 2)
		want = append(want[2:], proof(0, low+9, "d", "9", 1, 2, 3), proof(0, low+12, "d", "12", 0, 2, 3))
		wantKept(t, l, "behind a cut", want...)
	}
}

// 10.5: just a quorum: those that were there when it became prepared, of more the first ones.
func TestWhoIsInAProof(t *testing.T) {
	for n, q := range quorums() {
		l := newLog(t, n)
		// The last ones are there first: what they prove is not undone by those who come.
		propose(t, l, 0, 1, "d", "b")
		last := upTo(n)[n-q:]
		vote(t, l, prepare(0, 1, "d"), last...)
		wantKept(t, l, "a quorum", proof(0, 1, "d", "b", last...))
		vote(t, l, prepare(0, 1, "d"), upTo(n-q)...)
		vote(t, l, commit(0, 1, "d"), upTo(n)...)
		wantKept(t, l, "more came", proof(0, 1, "d", "b", last...))
		wantPropose(t, l, "once more", 0, 1, "d", "b", api.ErrTwice)
		wantKept(t, l, "proposed once more", proof(0, 1, "d", "b", last...))
		// All are there ahead of the proposal.
		for from := n - 1; from >= 0; from-- {
			vote(t, l, prepare(0, 2, "e"), from)
		}
		propose(t, l, 0, 2, "e", "c")
		wantKept(t, l, "all", proof(0, 1, "d", "b", last...), proof(0, 2, "e", "c", upTo(q)...))
		// Some of the first ones vote for another digest.
		vote(t, l, prepare(0, 3, "x"), upTo(n-q)...)
		vote(t, l, prepare(0, 3, "e"), last...)
		propose(t, l, 0, 3, "e", "c")
		wantKept(t, l, "some otherwise", proof(0, 1, "d", "b", last...), proof(0, 2, "e", "c", upTo(q)...), proof(0, 3, "e", "c", last...))
	}
}

// 10.5: of each number the proof of the highest view, which is not a mere proposal, nor votes.
func TestKeptOverViews(t *testing.T) {
	l := newLog(t, 4)
	for seq := 1; seq <= 3; seq++ {
		propose(t, l, 0, seq, "d", "b")
		vote(t, l, prepare(0, seq, "d"), 0, 1, 2)
	}
	old := []api.Body{proof(0, 1, "d", "b", 0, 1, 2), proof(0, 2, "d", "b", 0, 1, 2), proof(0, 3, "d", "b", 0, 1, 2)}
	wantKept(t, l, "view 0", old...)
	wantEnter(t, l, "on", 2, api.OK)
	wantKept(t, l, "view 2", old...)
	wantState(t, l, "in view 2", 1, false, false)
	propose(t, l, 2, 1, "e", "c")
	propose(t, l, 2, 2, "d", "b")
	propose(t, l, 2, 4, "f", "g")
	vote(t, l, prepare(2, 1, "e"), 1, 2)
	vote(t, l, prepare(2, 2, "d"), 1, 2)
	vote(t, l, prepare(2, 3, "d"), 0, 1, 2, 3)
	wantKept(t, l, "nothing prepared yet", old...)
	vote(t, l, prepare(2, 1, "e"), 3)
	vote(t, l, prepare(2, 2, "d"), 3)
	vote(t, l, prepare(2, 4, "f"), 0, 1, 2)
	now := []api.Body{proof(2, 1, "e", "c", 1, 2, 3), proof(2, 2, "d", "b", 1, 2, 3), old[2], proof(2, 4, "f", "g", 0, 1, 2)}
	wantKept(t, l, "prepared", now...)
	vote(t, l, prepare(2, 1, "e"), 0)
	wantKept(t, l, "one more", now...)
	wantEnter(t, l, "on", 3, api.OK)
	wantKept(t, l, "view 3", now...)
	propose(t, l, 3, 3, "d", "b")
	vote(t, l, prepare(3, 3, "d"), 0, 3, 2)
	now[2] = proof(3, 3, "d", "b", 0, 2, 3)
	wantKept(t, l, "view 3", now...)
	wantCut(t, l, "on", 4, api.OK)
	wantKept(t, l, "cut")
}

// What becomes of lists that were told is nothing to the log, nor to one another.
func TestToldIsNotKept(t *testing.T) {
	l := full(t, 0)
	want := tell(t, l)
	spoil := func(s []api.Signed) {
		all := s[:cap(s)]
		for i := range all {
			all[i] = api.Signed{From: 99, Body: "spoilt"}
		}
	}
	first, second := l.Kept(), l.Kept()
	spoil(first[2].List)
	if len(first[1].List) != 3 || first[1].List[0] != want.kept[1].List[0] || first[3].List[2] != want.kept[3].List[2] {
		t.Errorf("a proof beside is changed to %+v", first)
	}
	for i := range first {
		spoil(first[i].List)
		first[i].Digest = "spoilt"
	}
	_ = append(first[:1], api.Body{Kind: 1})
	wantTold(t, "behind proofs that are changed", tell(t, l), want)
	if second[0].Digest != "d1" || second[7].List[0] != want.kept[7].List[0] {
		t.Errorf("another list is changed to %+v", second)
	}
	_, _, cert := l.Stable()
	spoil(cert)
	wantTold(t, "behind a certificate that is changed", tell(t, l), want)
	// And what the log hears is nothing to what it told.
	third := l.Kept()
	wantEnter(t, l, "on", 2, api.OK)
	propose(t, l, 2, 1, "x", "y")
	vote(t, l, prepare(2, 1, "x"), 1, 2, 3)
	if third[0].Digest != "d1" || third[0].List[0] != want.kept[0].List[0] {
		t.Errorf("the log changed a proof that it told to %+v", third[0])
	}
}

// What is handed in is taken as it is at the call, and left so.
func TestHandedInIsNotKept(t *testing.T) {
	l := newLog(t, 4)
	b := prepare(0, 1, "d")
	b.List = []api.Signed{{From: 1}, {From: 2}}
	m := said(1, b)
	if e := l.Vote(m, b); e != api.OK || b.List[0].From != 1 || b.List[1].From != 2 {
		t.Fatalf("Vote = %d, and the list is %+v", e, b.List)
	}
	b.List[0].From, b.Digest, m.Body = 7, "x", "changed"
	propose(t, l, 0, 1, "d", "b")
	vote(t, l, prepare(0, 1, "d"), 0, 2)
	wantKept(t, l, "changed behind the call", proof(0, 1, "d", "b", 0, 1, 2))
}
