package vlog_test

import (
	"fmt"
	"math"
	"testing"

	"gavel/api"
)

// 10.3: who may sign, and what is a checkpoint.
func TestCheckRefuses(t *testing.T) {
	for n := range quorums() {
		l := newLog(t, n)
		for _, from := range append(far(), -100, -1, n, n+1, 100, 255) {
			wantCheck(t, l, "no replica", from, check(4, "r"), api.ErrArg)
		}
		for _, kind := range append(far(), -1, 0, 1, 2, 3, 4, 6, 7, 8, 9, 10, 11, 12, 13, 14) {
			b := check(4, "r")
			b.Kind = kind
			wantCheck(t, l, "no checkpoint", 1, b, api.ErrArg)
		}
		for from := range n {
			wantCheck(t, l, "a replica", from, check(4, "r"), api.OK)
		}
	}
}

// 10.3: above the low number, and be it ever so far.
func TestCheckAtTheEdges(t *testing.T) {
	for _, low := range []int{0, 4, 8, topCut} {
		l := logAt(t, 4, 0, low)
		for _, seq := range []int{math.MinInt, -low - 1, -1, low - 4, low - 1, low} {
			wantCheck(t, l, "not above", 1, check(seq, "r"), api.ErrWindow)
		}
		for _, seq := range []int{low + 1, low + 4, low + 8, low + 9, topCut + 10, math.MaxInt - 1, math.MaxInt} {
			wantCheck(t, l, "above", 1, check(seq, "r"), api.OK)
		}
		sign(t, l, check(math.MaxInt, "r"), 0, 3)
		wantStable(t, l, "at the end", math.MaxInt, "r", 0, 1, 3)
	}
}

// 10.3: of each replica the last one, which is the highest.
func TestCheckAgain(t *testing.T) {
	l := newLog(t, 4)
	sign(t, l, check(8, "r"), 1)
	wantCheck(t, l, "the same", 1, check(8, "r"), api.ErrTwice)
	wantCheck(t, l, "another root", 1, check(8, "q"), api.ErrClash)
	wantCheck(t, l, "no root", 1, check(8, ""), api.ErrClash)
	wantCheck(t, l, "the same behind another root", 1, check(8, "r"), api.ErrTwice)
	for _, seq := range []int{7, 4, 1} {
		wantCheck(t, l, "a lower one", 1, check(seq, "r"), api.ErrTwice)
		wantCheck(t, l, "a lower one of another root", 1, check(seq, "q"), api.ErrTwice)
	}
	wantCheck(t, l, "another replica", 2, check(8, "q"), api.OK)
	wantCheck(t, l, "a higher one", 1, check(9, "r"), api.OK)
	wantCheck(t, l, "the one ahead", 1, check(8, "r"), api.ErrTwice)
	wantCheck(t, l, "the one ahead, of another root", 1, check(8, "q"), api.ErrTwice)
	wantCheck(t, l, "a higher one of another root", 1, check(10, "q"), api.OK)
	wantCheck(t, l, "the last, of the root ahead", 1, check(10, "r"), api.ErrClash)
	// A root that is empty is one.
	wantCheck(t, l, "of no root", 3, check(10, ""), api.OK)
	wantCheck(t, l, "of no root again", 3, check(10, ""), api.ErrTwice)
	wantCheck(t, l, "of a root behind none", 3, check(10, "q"), api.ErrClash)
}

// 10.3: a checkpoint that is refused is not the last one: what comes behind it is held against the one that was taken.
func TestCheckRefusedIsNotTheLast(t *testing.T) {
	l := newLog(t, 4)
	sign(t, l, check(4, "r"), 0, 1)
	wantCheck(t, l, "another root", 0, check(4, "q"), api.ErrClash)
	wantCheck(t, l, "below", 1, check(1, "q"), api.ErrTwice)
	wantCheck(t, l, "no replica", 4, check(4, "r"), api.ErrArg)
	wantCheck(t, l, "at the low number", 2, check(0, "r"), api.ErrWindow)
	wantStable(t, l, "two", 0, "")
	sign(t, l, check(4, "r"), 2)
	wantStable(t, l, "three", 4, "r", 0, 1, 2)
}

// 10.3: nothing but From, Kind, Seq and Digest is looked at; the message that was taken is the one that is told.
func TestChecksAreTakenAsTheyAre(t *testing.T) {
	l := logAt(t, 4, 3, 0)
	odd := api.Body{Kind: api.KindCheck, View: -9, Seq: 3, Client: 77, Stamp: -1, Digest: "r", Text: "t", List: []api.Signed{{From: 5}}}
	first := api.Signed{From: 0, Body: "not a body's bytes"}
	for i, x := range []struct {
		m    api.Signed
		b    api.Body
		want api.Errno
	}{
		{first, odd, api.OK},
		{api.Signed{From: 0, Body: "other", Sig: "s"}, odd, api.ErrTwice},
		{api.Signed{From: 1, Sig: "s"}, check(3, "r"), api.OK},
		{api.Signed{From: 2}, odd, api.OK},
	} {
		wantStep(t, l, fmt.Sprintf("check %d", i), func() api.Errno { return l.Check(x.m, x.b) }, x.want)
	}
	seq, root, cert := l.Stable()
	if seq != 3 || root != "r" || len(cert) != 3 || cert[0] != first || cert[1] != (api.Signed{From: 1, Sig: "s"}) || cert[2] != (api.Signed{From: 2}) {
		t.Errorf("Stable() = %d, %q, %+v", seq, root, cert)
	}
}

// 10.3: ErrArg is told ahead of ErrWindow, and that ahead of ErrClash and ErrTwice.
func TestCheckTellsTheFirstError(t *testing.T) {
	l := newLog(t, 4)
	sign(t, l, check(8, "r"), 1, 2)
	for _, seq := range []int{-1, 0, 4, 8, 12} {
		wantCheck(t, l, "no replica", 4, check(seq, "r"), api.ErrArg)
		wantCheck(t, l, "no replica", -1, check(seq, "q"), api.ErrArg)
		wantCheck(t, l, "no checkpoint", 1, prepare(0, seq, "r"), api.ErrArg)
		wantCheck(t, l, "neither", 4, commit(0, seq, "q"), api.ErrArg)
	}
	wantCut(t, l, "on", 8, api.OK)
	wantCheck(t, l, "the same at the low number", 1, check(8, "r"), api.ErrWindow)
	wantCheck(t, l, "another root at the low number", 1, check(8, "q"), api.ErrWindow)
	wantCheck(t, l, "below", 1, check(4, "r"), api.ErrWindow)
	wantCheck(t, l, "above", 1, check(9, "q"), api.OK)
}

// 10.3: a quorum less one is none; of more the first ones are told, in whatever order they signed.
func TestStableOfEachSize(t *testing.T) {
	for n, q := range quorums() {
		l := newLog(t, n)
		wantStable(t, l, "none", 0, "")
		for i := n - 1; i >= 0; i-- {
			signed := n - 1 - i
			if signed >= q {
				wantStable(t, l, "a quorum", 4, "r", upTo(n)[i+1:i+1+q]...)
			} else {
				wantStable(t, l, "less than a quorum", 0, "")
			}
			sign(t, l, check(4, "r"), i)
		}
		wantStable(t, l, "all", 4, "r", upTo(q)...)
	}
}

// 10.3: roots and numbers must be alike.
func TestStableOfUnlike(t *testing.T) {
	for n, q := range quorums() {
		l := newLog(t, n)
		sign(t, l, check(4, "r"), upTo(q-1)...)
		for from := q - 1; from < n-1; from++ {
			sign(t, l, check(4, "q"), from)
		}
		wantStable(t, l, "of unlike roots", 0, "")
		sign(t, l, check(8, "r"), n-1)
		wantStable(t, l, "of unlike numbers", 0, "")
		// One goes from the one root to a number where the other one stands.
		sign(t, l, check(8, "r"), upTo(q-1)...)
		wantStable(t, l, "a quorum at a higher number", 8, "r", append(upTo(q-1), n-1)...)
		sign(t, l, check(8, "q"), q-1)
		wantStable(t, l, "one otherwise", 8, "r", append(upTo(q-1), n-1)...)
	}
}

// 10.3: one quorum behind another; while it goes on there may be none.
func TestStableGoesOn(t *testing.T) {
	for n, q := range quorums() {
		f := n - q
		l := newLog(t, n)
		sign(t, l, check(4, "r"), upTo(n)...)
		for i := range n {
			sign(t, l, check(8, "s"), i)
			switch {
			case i+1 >= q:
				wantStable(t, l, "the higher one", 8, "s", upTo(q)...)
			case i+1 <= f:
				wantStable(t, l, "the lower one", 4, "r", upTo(n)[i+1:i+1+q]...)
			default:
				wantStable(t, l, "neither", 0, "")
			}
		}
		// A checkpoint that nobody shares does not hide the one of a quorum.
		sign(t, l, check(400, "x"), n-1)
		wantStable(t, l, "a high one of one", 8, "s", upTo(q)...)
	}
}

// 10.3: a root that is empty may be stable, and so may a number that is no multiple of 4: neither is looked at.
func TestStableWithoutARoot(t *testing.T) {
	l := newLog(t, 4)
	sign(t, l, check(5, ""), 3, 0, 2)
	wantStable(t, l, "no root", 5, "", 0, 2, 3)
}

// 10.3, 10.4: what is not above the low number any more stays the last one, and does not count.
func TestStableBehindACut(t *testing.T) {
	for _, low := range []int{4, 8, 12} {
		l := newLog(t, 4)
		sign(t, l, check(8, "r"), 0, 1, 2)
		sign(t, l, check(16, "s"), 3)
		wantStable(t, l, "ahead of a cut", 8, "r", 0, 1, 2)
		wantCut(t, l, "on", low, api.OK)
		if low < 8 {
			wantStable(t, l, "a cut below it", 8, "r", 0, 1, 2)
			wantCheck(t, l, "the last one again", 0, check(8, "r"), api.ErrTwice)
			continue
		}
		wantStable(t, l, "a cut at it or above", 0, "")
		wantCheck(t, l, "the last one again", 0, check(8, "r"), api.ErrWindow)
		wantCheck(t, l, "one that is above still", 3, check(16, "s"), api.ErrTwice)
		wantCheck(t, l, "one that is above still, another root", 3, check(16, "q"), api.ErrClash)
		sign(t, l, check(16, "s"), 1)
		wantStable(t, l, "two, with one of ahead", 0, "")
		sign(t, l, check(16, "s"), 0)
		wantStable(t, l, "three, with one of ahead", 16, "s", 0, 1, 3)
	}
}

// 10.5: a view has nothing to do with checkpoints.
func TestChecksOverViews(t *testing.T) {
	l := newLog(t, 4)
	sign(t, l, check(4, "r"), 0, 1)
	wantEnter(t, l, "on", 1, api.OK)
	wantCheck(t, l, "the same", 0, check(4, "r"), api.ErrTwice)
	wantCheck(t, l, "another root", 1, check(4, "q"), api.ErrClash)
	sign(t, l, check(4, "r"), 3)
	wantStable(t, l, "over two views", 4, "r", 0, 1, 3)
	wantEnter(t, l, "on", 9, api.OK)
	wantStable(t, l, "over three views", 4, "r", 0, 1, 3)
}
