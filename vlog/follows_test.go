package vlog_test

import (
	"fmt"
	"reflect"
	"testing"

	"gavel/api"
	"gavel/vlog"
)

// apply does a deed at a log.
func apply(l *vlog.Log, d deed) api.Errno {
	b := api.Body{Kind: d.kind, View: d.view, Seq: d.seq, Digest: d.digest}
	switch d.call {
	case entering:
		return l.Enter(d.view)
	case cutting:
		return l.Cut(d.seq)
	case proposing:
		return l.Propose(d.view, d.seq, d.digest, d.batch)
	case voting:
		return l.Vote(d.m, b)
	}
	return l.Check(d.m, b)
}

// mostly is the first one, but now and then one of the others.
func mostly(dice func(int) int, often int, l ...int) int {
	if dice(often) > 0 {
		return l[0]
	}
	return l[dice(len(l))]
}

// someDeed is a call that is mostly one that may be. It leans to what lets numbers become prepared and checkpoints stable.
func someDeed(dice func(int) int, n, view, low int) deed {
	d := deed{call: voting, view: mostly(dice, 30, view, view-1, view+1, -1)}
	d.seq = mostly(dice, 5, low+1+dice(3), low+1+dice(8), low, low+9, -1)
	d.digest = fmt.Sprint("d", d.seq, " ", d.view/2)
	if dice(12) == 0 {
		d.digest = []string{"", "x", "y"}[dice(3)]
	}
	d.kind = api.KindPrepare + dice(2)
	from := mostly(dice, 30, dice(n), -1, n, 13)
	switch x := dice(100); {
	case x < 12:
		d.call, d.kind, d.batch = proposing, 0, "batch of "+d.digest
		if dice(9) == 0 {
			d.batch = ""
		}
		return d
	case x < 26:
		d.call, d.kind, d.view = checking, mostly(dice, 30, api.KindCheck, api.KindCommit), 0
		d.seq = mostly(dice, 5, low+4+4*dice(2), low, low+1+dice(20), low-4)
		d.digest = fmt.Sprint("r", mostly(dice, 12, d.seq, 0))
	case x < 27:
		return deed{call: entering, view: mostly(dice, 2, view+1, view, view-1, view+1+dice(3), topView+1)}
	case x < 28:
		return deed{call: cutting, seq: mostly(dice, 2, low+4, low, low+1, low+8, low+16, topCut+4)}
	case x < 29:
		d.kind = dice(16) - 1
	}
	d.m = said(from, api.Body{Kind: d.kind, View: d.view, Seq: d.seq, Digest: d.digest})
	// Now and then another message says the same.
	if dice(9) == 0 {
		d.m.Sig = "another one"
	}
	return d
}

// wantStays: what was prepared or committed is so still, as it was, but behind another view, or at a number that was cut off.
func wantStays(t *testing.T, before, now told) {
	t.Helper()
	if now.view != before.view {
		if len(now.prepared)+len(now.committed) > 0 {
			t.Fatalf("in a new view there is %+v", now)
		}
		return
	}
	for seq := range before.prepared {
		if seq > now.low && (!now.prepared[seq] || now.proposals[seq] != before.proposals[seq] || before.committed[seq] && !now.committed[seq]) {
			t.Fatalf("%d does not stay: \n%+v, then\n%+v", seq, before, now)
		}
	}
}

// outcome is what came of a call.
type outcome struct {
	call int
	e    api.Errno
}

// sights is how often something was seen in scripts.
type sights struct {
	calls                                       map[outcome]int
	prepared, committed, older, renewed, stable int
}

func (s *sights) see(before, now told) {
	s.prepared += len(now.prepared)
	s.committed += len(now.committed)
	for i, p := range now.kept {
		if p.View < now.view {
			s.older++
		}
		if len(before.kept) == len(now.kept) && before.kept[i].Seq == p.Seq && before.kept[i].View < p.View {
			s.renewed++
		}
	}
	if now.seq > 0 {
		s.stable++
	}
}

// want: the scripts came to all that they are for.
func (s *sights) want(t *testing.T) {
	t.Helper()
	for call, errors := range map[int][]api.Errno{
		entering:  {api.OK, api.ErrArg},
		cutting:   {api.OK, api.ErrArg},
		proposing: {api.OK, api.ErrArg, api.ErrWindow, api.ErrTwice, api.ErrClash},
		voting:    {api.OK, api.ErrArg, api.ErrWindow, api.ErrTwice, api.ErrClash},
		checking:  {api.OK, api.ErrArg, api.ErrWindow, api.ErrTwice, api.ErrClash},
	} {
		for _, e := range errors {
			if s.calls[outcome{call, e}] < 10 {
				t.Errorf("call %d was answered %d only %d times", call, e, s.calls[outcome{call, e}])
			}
		}
	}
	for _, n := range []int{s.prepared, s.committed, s.older, s.renewed, s.stable} {
		if n < 10 {
			t.Errorf("too little was seen: %+v", s)
		}
	}
}

// 10.2 to 10.6: many calls, one by one against what the model says; and what is refused changes nothing, now or later.
func TestManyCalls(t *testing.T) {
	dice := chance(10)
	seen := sights{calls: map[outcome]int{}}
	for _, n := range []int{4, 7, 10, 13} {
		for range 5 {
			l, m := newLog(t, n), &model{n: n, quorum: quorums()[n]}
			before := tell(t, l)
			for range 500 {
				d := someDeed(dice, n, m.view(), m.low())
				e, want := apply(l, d), m.do(d)
				if e != want {
					t.Fatalf("%+v was answered %d, want %d, behind\n%+v", d, e, want, m.deeds)
				}
				seen.calls[outcome{d.call, e}]++
				now := tell(t, l)
				if x := m.tell(); !reflect.DeepEqual(now, x) {
					t.Fatalf("behind %+v:\n%+v, want\n%+v", d, now, x)
				}
				wantStays(t, before, now)
				seen.see(before, now)
				before = now
			}
		}
	}
	seen.want(t)
}

// 10.6: what is prepared and committed stays so, whatever comes that is no higher view and no cut at it.
func TestStays(t *testing.T) {
	l := full(t, 4)
	want := tell(t, l)
	for _, seq := range numbers(l) {
		l.Propose(1, seq, "other", "batch")
		l.Propose(0, seq, "other", "batch")
		for from := -1; from <= 4; from++ {
			for view := range 3 {
				l.Vote(said(from, prepare(view, seq, "other")), prepare(view, seq, "other"))
				l.Vote(said(from, commit(view, seq, "other")), commit(view, seq, "other"))
			}
		}
		l.Enter(1)
		l.Enter(0)
		l.Cut(4)
		l.Cut(5)
	}
	wantTold(t, "all that may not be", tell(t, l), want)
	sign(t, l, check(12, "s"), 0, 2, 3)
	wantCut(t, l, "on", 8, api.OK)
	for seq := 9; seq <= 12; seq++ {
		wantState(t, l, "above a cut", seq, true, true)
	}
	wantEnter(t, l, "on", 2, api.OK)
	for seq := 9; seq <= 12; seq++ {
		wantState(t, l, "in a higher view", seq, false, false)
	}
}

// 10.6: two logs of four, of which three vote alike, though not each vote comes to both: all ways in which they may vote for one of two digests.
func TestTwoLogsOfFour(t *testing.T) {
	both := 0
	digests := []string{"d", "e"}
	for ways := range 8 * 8 * 8 * 9 * 4 {
		picks, arrive, rest := ways%8, ways/8%64, ways/8/64
		var logs [2]*vlog.Log
		for i := range logs {
			logs[i] = newLog(t, 4)
			propose(t, logs[i], 0, 1, digests[rest/9>>i&1], "b")
			for from := range 3 {
				if arrive>>(3*i+from)&1 == 1 {
					vote(t, logs[i], prepare(0, 1, digests[picks>>from&1]), from)
				}
			}
			if lie := []int{rest % 3, rest / 3 % 3}[i]; lie < 2 {
				vote(t, logs[i], prepare(0, 1, digests[lie]), 3)
			}
		}
		both += wantAlike(t, logs[0], logs[1])
	}
	if both < 50 {
		t.Errorf("at both logs something was prepared %d times", both)
	}
}

// wantAlike: what is prepared at both logs, in one view, is the same; and at how many numbers that is so.
func wantAlike(t *testing.T, a, b *vlog.Log) int {
	t.Helper()
	both := 0
	for seq := a.Low(); seq <= a.Low()+9; seq++ {
		if a.View() != b.View() || !a.Prepared(seq) || !b.Prepared(seq) {
			continue
		}
		both++
		x, _, _ := a.Proposal(seq)
		y, _, _ := b.Proposal(seq)
		if x != y {
			t.Fatalf("at %d %q is prepared here and %q there", seq, x, y)
		}
	}
	return both
}

// 10.6: two logs of each size. All but f vote alike at both, for one of two digests, if their votes come at all; f liars and the primary tell each log what it likes.
func TestTwoLogs(t *testing.T) {
	dice := chance(6)
	for _, n := range []int{4, 7, 10, 13} {
		both, f := 0, n-quorums()[n]
		for range 400 {
			logs := []*vlog.Log{newLog(t, n), newLog(t, n)}
			first := dice(n) // of the liars
			for seq := 1; seq <= 8; seq++ {
				wants := []string{"d", "e"}
				for _, l := range logs {
					propose(t, l, 0, seq, wants[dice(2)], "b")
				}
				lean := 2 + dice(9)
				for from := range n {
					honest, liar := wants[dice(lean)/(lean-1)], (from-first+n)%n < f
					for _, l := range logs {
						d := honest
						if liar {
							d, _, _ = l.Proposal(seq)
						}
						if liar || dice(20) > 0 {
							vote(t, l, prepare(0, seq, d), from)
						}
					}
				}
			}
			both += wantAlike(t, logs[0], logs[1])
		}
		if both < 100 {
			t.Errorf("of %d: at both logs something was prepared %d times", n, both)
		}
	}
}
