package vlog_test

import (
	"reflect"
	"testing"

	"gavel/api"
	"gavel/vlog"
)

// nothing is what a log tells that has heard nothing.
func nothing(view, low int) told {
	return told{view: view, low: low, proposals: map[int]offer{}, prepared: map[int]bool{}, committed: map[int]bool{}, voted: map[ballot]api.Signed{}, kept: []api.Body{}, cert: []api.Signed{}}
}

// 10.1
func TestNew(t *testing.T) {
	sizes := far()
	for n := -14; n <= 30; n++ {
		sizes = append(sizes, n)
	}
	for _, n := range sizes {
		l, e := vlog.New(n)
		if quorums()[n] == 0 {
			if l != nil || e != api.ErrArg {
				t.Errorf("New(%d) = %v, %d", n, l, e)
			}
			continue
		}
		if l == nil || e != api.OK {
			t.Fatalf("New(%d) = %v, %d", n, l, e)
		}
		wantTold(t, "new", tell(t, l), nothing(0, 0))
	}
}

// 10.1: what one log hears is nothing to another one.
func TestLogsAreApart(t *testing.T) {
	a, b := newLog(t, 4), newLog(t, 4)
	propose(t, a, 0, 1, "d", "b")
	vote(t, a, prepare(0, 1, "d"), 0, 1, 2)
	vote(t, a, commit(0, 1, "d"), 0, 1, 2)
	sign(t, a, check(4, "r"), 0, 1, 2)
	wantTold(t, "the other one", tell(t, b), nothing(0, 0))
	wantCut(t, a, "one", 4, api.OK)
	wantEnter(t, a, "one", 1, api.OK)
	wantTold(t, "the other one", tell(t, b), nothing(0, 0))
}

// full is a log of four in view 1 at a low number: each number of the window has a proposal of its own and is committed, and there is a checkpoint of each replica.
func full(t *testing.T, low int) *vlog.Log {
	t.Helper()
	l := logAt(t, 4, 1, low)
	for i := range 8 {
		seq := low + 1 + i
		digest := "d" + string(rune('1'+i))
		propose(t, l, 1, seq, digest, "b"+digest)
		vote(t, l, prepare(1, seq, digest), 3, 1, 2, 0)
		vote(t, l, commit(1, seq, digest), 3, 0, 1, 2)
	}
	sign(t, l, check(low+4, "r"), 3, 2, 0)
	sign(t, l, check(low+8, "q"), 1)
	return l
}

// 10.4
func TestCutRefuses(t *testing.T) {
	for _, low := range []int{0, 4, 8, 1 << 20, topCut - 4, topCut} {
		l := logAt(t, 4, 0, low)
		for _, seq := range append(far(), -8, -4, -1, 0, low-8, low-4, low-1, low, low+1, low+2, low+3, low+5, low+6, low+7, low+9, topCut-1, topCut+1, topCut+4, 2*topCut) {
			wantCut(t, l, "not so", seq, api.ErrArg)
		}
		if l.Low() != low {
			t.Errorf("the low number is %d, want %d", l.Low(), low)
		}
	}
	wantCut(t, full(t, 0), "not above", 0, api.ErrArg)
	wantCut(t, full(t, 0), "one above", 1, api.ErrArg)
	wantCut(t, full(t, 8), "where it is", 8, api.ErrArg)
	wantCut(t, full(t, 8), "below", 4, api.ErrArg)
}

// 10.4: a log need not have heard anything of what is cut off.
func TestCutAtTheEdges(t *testing.T) {
	for _, seq := range []int{4, 8, 12, 16, 4004, topCut - 4, topCut} {
		l := newLog(t, 7)
		wantCut(t, l, "a multiple", seq, api.OK)
		wantTold(t, "cut", tell(t, l), nothing(0, seq))
		wantCut(t, l, "the same again", seq, api.ErrArg)
		wantPropose(t, l, "the low number", 0, seq, "d", "b", api.ErrWindow)
		propose(t, l, 0, seq+1, "d", "b")
		propose(t, l, 0, seq+8, "e", "c")
		vote(t, l, prepare(0, seq+8, "e"), 0, 1, 2, 3, 4)
		wantPropose(t, l, "beyond the window", 0, seq+9, "d", "b", api.ErrWindow)
		wantState(t, l, "the last of the window", seq+8, true, false)
		wantKept(t, l, "cut", proof(0, seq+8, "e", "c", 0, 1, 2, 3, 4))
	}
	l := newLog(t, 4)
	wantCut(t, l, "one multiple ahead of the last", topCut-4, api.OK)
	wantCut(t, l, "the last", topCut, api.OK)
	wantCut(t, l, "behind the last", topCut+4, api.ErrArg)
}

// 10.4: what stands up to the number is gone, what stands above it is as it was, and so are view and checkpoints.
func TestCut(t *testing.T) {
	for _, low := range []int{0, 4, 1 << 16, topCut - 12} {
		for _, up := range []int{4, 8, 12} {
			l := full(t, low)
			want := tell(t, l)
			wantCut(t, l, "full", low+up, api.OK)
			want.low = low + up
			for seq := range want.proposals {
				if seq <= low+up {
					delete(want.proposals, seq)
					delete(want.prepared, seq)
					delete(want.committed, seq)
				}
			}
			for v := range want.voted {
				if v.seq <= low+up {
					delete(want.voted, v)
				}
			}
			want.kept = want.kept[min(up, 8):]
			want.seq, want.root, want.cert = 0, "", []api.Signed{}
			wantTold(t, "cut", tell(t, l), want)
		}
	}
}

// 10.4: two cuts come to what one does.
func TestCutTwice(t *testing.T) {
	a, b := full(t, 0), full(t, 0)
	wantCut(t, a, "half of it", 4, api.OK)
	wantCut(t, a, "the rest", 8, api.OK)
	wantCut(t, b, "all", 8, api.OK)
	wantTold(t, "cut twice", tell(t, a), tell(t, b))
}

// 10.4: a place of the ring that was used is empty when its next number comes, and takes that one's.
func TestTheNextNumberOfAPlace(t *testing.T) {
	l := full(t, 0)
	for _, low := range []int{4, 8, 12, 400} {
		wantCut(t, l, "on", low, api.OK)
		for seq := low + 5; seq <= low+8; seq++ {
			if _, _, ok := l.Proposal(seq); ok || l.Prepared(seq) || l.Committed(seq) {
				t.Fatalf("%d has something of the number ahead", seq)
			}
			for from := range 4 {
				vote(t, l, prepare(1, seq, "x"), from)
				wantState(t, l, "votes alone", seq, false, false)
			}
			vote(t, l, commit(1, seq, "x"), 0, 1, 3)
			wantState(t, l, "votes alone", seq, false, false)
			propose(t, l, 1, seq, "x", "c")
			wantState(t, l, "all", seq, true, true)
			wantProposal(t, l, seq, "x", "c")
			k := l.Kept()
			if got := k[len(k)-1]; !reflect.DeepEqual(got, proof(1, seq, "x", "c", 0, 1, 2)) {
				t.Fatalf("the last proof is %+v", got)
			}
		}
	}
}

// 10.5
func TestEnterRefuses(t *testing.T) {
	for _, view := range []int{0, 1, 5, topView - 1, topView} {
		l := logAt(t, 4, view, 0)
		for _, v := range append(far(), -1, 0, view-1, view, topView+1, 2*topView) {
			if v <= view || v > topView {
				wantEnter(t, l, "not so", v, api.ErrArg)
			}
		}
		if l.View() != view {
			t.Errorf("the view is %d, want %d", l.View(), view)
		}
	}
	wantEnter(t, full(t, 0), "the same", 1, api.ErrArg)
	wantEnter(t, full(t, 0), "a lower one", 0, api.ErrArg)
	wantEnter(t, full(t, 0), "beyond all", topView+1, api.ErrArg)
}

// 10.5
func TestEnterAtTheEdges(t *testing.T) {
	for _, view := range []int{1, 2, 17, topView - 1, topView} {
		l := newLog(t, 4)
		wantEnter(t, l, "a higher one", view, api.OK)
		wantTold(t, "entered", tell(t, l), nothing(view, 0))
		wantEnter(t, l, "the same again", view, api.ErrArg)
		propose(t, l, view, 1, "d", "b")
		vote(t, l, prepare(view, 1, "d"), 0, 1, 2)
		wantKept(t, l, "entered", proof(view, 1, "d", "b", 0, 1, 2))
	}
	l := logAt(t, 4, topView-1, 0)
	wantEnter(t, l, "the last", topView, api.OK)
	wantEnter(t, l, "behind the last", topView+1, api.ErrArg)
}

// 10.5: proposals and votes are none then; low number, proofs and checkpoints stay.
func TestEnter(t *testing.T) {
	for _, low := range []int{0, 4, topCut} {
		for _, view := range []int{2, 3, 900, topView} {
			l := full(t, low)
			before := tell(t, l)
			wantEnter(t, l, "full", view, api.OK)
			want := nothing(view, low)
			want.kept, want.seq, want.root, want.cert = before.kept, before.seq, before.root, before.cert
			if len(want.kept) != 8 || len(want.cert) != 3 {
				t.Fatalf("full tells %+v", before)
			}
			wantTold(t, "entered", tell(t, l), want)
		}
	}
}

// 10.5: the views ahead are over, and what was said in them is no obstacle in the next one.
func TestNumbersAnewInAView(t *testing.T) {
	l := full(t, 0)
	wantEnter(t, l, "full", 3, api.OK)
	for _, view := range []int{0, 1, 2, 4} {
		wantPropose(t, l, "another view", view, 1, "d1", "bd1", api.ErrWindow)
		wantVote(t, l, "another view", 0, prepare(view, 1, "d1"), api.ErrWindow)
	}
	propose(t, l, 3, 1, "d1", "bd1")
	propose(t, l, 3, 2, "other", "batch")
	vote(t, l, prepare(3, 1, "d1"), 0, 1, 2)
	vote(t, l, prepare(3, 2, "d2"), 0, 1, 2)
	vote(t, l, commit(3, 2, "other"), 0, 1, 2)
	wantState(t, l, "as ahead", 1, true, false)
	wantState(t, l, "prepares for what it was ahead", 2, false, false)
	vote(t, l, commit(3, 1, "d1"), 1, 2, 3)
	wantState(t, l, "as ahead", 1, true, true)
}

// 10.7: a zero Log, which no call made either, is answered as nil is.
func TestNoLog(t *testing.T) {
	for name, l := range map[string]*vlog.Log{"nil": nil, "zero": {}} {
		for range 2 {
			for _, n := range append(far(), -4, -1, 0, 1, 4, 8, topView, topCut) {
				if e := l.Enter(n); e != api.ErrArg {
					t.Errorf("%s: Enter(%d) = %d", name, n, e)
				}
				if e := l.Cut(n); e != api.ErrArg {
					t.Errorf("%s: Cut(%d) = %d", name, n, e)
				}
				for _, digest := range []string{"", "d"} {
					if e := l.Propose(0, n, digest, "b"); e != api.ErrArg {
						t.Errorf("%s: Propose(0, %d, %q) = %d", name, n, digest, e)
					}
					for from := -1; from <= 4; from++ {
						for _, b := range []api.Body{{}, prepare(0, n, digest), commit(0, n, digest), check(n, digest)} {
							if e := l.Vote(said(from, b), b); e != api.ErrArg {
								t.Errorf("%s: Vote(%d, %+v) = %d", name, from, b, e)
							}
							if e := l.Check(said(from, b), b); e != api.ErrArg {
								t.Errorf("%s: Check(%d, %+v) = %d", name, from, b, e)
							}
						}
					}
				}
			}
			wantTold(t, name, tell(t, l), nothing(0, 0))
		}
	}
}
