package ledger_test

import (
	"math"
	"strings"
	"testing"

	"gavel/api"
	"gavel/ledger"
)

// mark is a call of Mark.
func mark(who, stamp int, reply string) call {
	return call{name: "Mark", who: who, n: stamp, do: func(x *ledger.Ledger) api.Errno { return x.Mark(who, stamp, reply) }}
}

// 6.4
func TestStamps(t *testing.T) {
	x := newLedger(t, 3, 1)
	wantLast(t, x, 1, 0, "")
	each(t, x.Mark(1, 1, "one"))
	wantLast(t, x, 1, 1, "one")
	mark(1, 1, "one").refused(t, x, api.ErrStale)
	mark(1, 1, "other").refused(t, x, api.ErrStale)
	each(t, x.Mark(1, 2, ""))
	wantLast(t, x, 1, 2, "")
	mark(1, 1, "one").refused(t, x, api.ErrStale)
	each(t, x.Mark(1, 1000, "thousand"))
	wantLast(t, x, 1, 1000, "thousand")
	for _, stamp := range []int{1, 2, 3, 999, 1000} {
		mark(1, stamp, "r").refused(t, x, api.ErrStale)
	}
	each(t, x.Mark(1, most-1, "a"), x.Mark(1, most, "b"))
	wantLast(t, x, 1, most, "b")
	for _, stamp := range []int{1, most - 1, most} {
		mark(1, stamp, "r").refused(t, x, api.ErrStale)
	}
	wantLast(t, x, 0, 0, "") // each client's stamps are its own
	wantLast(t, x, 2, 0, "")
	each(t, x.Mark(0, 1, "zero"), x.Mark(2, most, "two"))
	wantLast(t, x, 0, 1, "zero")
	wantLast(t, x, 1, most, "b")
	wantLast(t, x, 2, most, "two")
}

// 6.4
func TestNoStamps(t *testing.T) {
	x := rich(t)
	for _, stamp := range []int{0, -1, most + 1, 1 << 53, math.MinInt, math.MaxInt} {
		for _, reply := range []string{"", "r", strings.Repeat("r", 257)} {
			mark(0, stamp, reply).refused(t, x, api.ErrArg)
			mark(0, stamp, reply).refused(t, newLedger(t, 1, 1), api.ErrArg)
		}
	}
}

// 6.4
func TestReplies(t *testing.T) {
	x := newLedger(t, 1, 1)
	for i, reply := range []string{"", "r", strings.Repeat("r", 255), strings.Repeat("r", 256), strings.Repeat("é", 128), strings.Repeat("\x00", 256), "\xff\xfe"} {
		each(t, x.Mark(0, i+1, reply))
		wantLast(t, x, 0, i+1, reply)
	}
	for _, reply := range []string{strings.Repeat("r", 257), strings.Repeat("é", 129), strings.Repeat("r", 1<<21)} {
		mark(0, 100, reply).refused(t, x, api.ErrArg)
		mark(0, 1, reply).refused(t, x, api.ErrArg) // ahead of being stale
	}
	each(t, x.Mark(0, 8, "r"))
}

// 6.1, 6.4
func TestMarkOfNobody(t *testing.T) {
	x := rich(t)
	for _, who := range beside(3) {
		for _, stamp := range []int{1, most, 0, -1, most + 1, math.MaxInt} {
			for _, reply := range []string{"", strings.Repeat("r", 257)} {
				mark(who, stamp, reply).refused(t, x, api.ErrAccount)
			}
		}
		wantLast(t, x, who, 0, "")
	}
}

// 6.4: what accounts have and what was replied do not touch each other.
func TestMarksAreApart(t *testing.T) {
	x := rich(t)
	a, _ := x.Account(1)
	each(t, x.Mark(1, 99, "reply"))
	wantAccount(t, x, 1, a)
	for _, c := range callsOf(1, 2, 1, 1) {
		each(t, c.do(x))
		wantLast(t, x, 1, 99, "reply")
		wantLast(t, x, 2, 9, "rr")
	}
}
