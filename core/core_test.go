package core_test

import (
	"math"
	"slices"
	"strings"
	"testing"

	"gavel/api"
	"gavel/authn"
	"gavel/core"
	"gavel/house"
	"gavel/merkle"
	"gavel/wire"
)

// 11.1: each field of a consortium, at its edges and beyond them.
func TestFits(t *testing.T) {
	most := api.Config{Faults: 4, Clients: 16, Goods: 4, Patience: 64}
	least := api.Config{Faults: 1, Clients: 1, Goods: 1, Patience: 1}
	if !core.Fits(most) || !core.Fits(least) {
		t.Errorf("Fits(%+v) = %v, Fits(%+v) = %v", most, core.Fits(most), least, core.Fits(least))
	}
	fields := []func(c *api.Config) *int{
		func(c *api.Config) *int { return &c.Faults },
		func(c *api.Config) *int { return &c.Clients },
		func(c *api.Config) *int { return &c.Goods },
		func(c *api.Config) *int { return &c.Patience },
	}
	for i, field := range fields {
		for _, n := range []int{math.MinInt, -1, 0, *field(&most) + 1, math.MaxInt} {
			c := least
			*field(&c) = n
			if core.Fits(c) {
				t.Errorf("Fits(%+v), field %d", c, i)
			}
			if r, e := core.New(c, 0, authn.NewBook()); r != nil || e != api.ErrArg {
				t.Errorf("New(%+v) = %v, %d", c, r, e)
			}
		}
		for n := 1; n <= *field(&most); n++ {
			c := least
			*field(&c) = n
			if !core.Fits(c) {
				t.Errorf("not Fits(%+v)", c)
			}
		}
	}
}

// 11.1: who may be a replica, and what a new one tells.
func TestNew(t *testing.T) {
	for f := 1; f <= 4; f++ {
		c := api.Config{Faults: f, Clients: 2, Goods: 3, Patience: 5}
		for _, id := range []int{math.MinInt, -1, 3*f + 1, 3*f + 2, 100, math.MaxInt} {
			if r, e := core.New(c, id, authn.NewBook()); r != nil || e != api.ErrArg {
				t.Errorf("New(%+v, %d) = %v, %d", c, id, r, e)
			}
		}
		for _, b := range []*authn.Book{nil, {}} {
			if r, e := core.New(c, 0, b); r != nil || e != api.ErrArg {
				t.Errorf("New without a book = %v, %d", r, e)
			}
		}
		for id := range 3*f + 1 {
			b := authn.NewBook()
			r, e := core.New(c, id, b)
			if r == nil || e != api.OK {
				t.Fatalf("New(%+v, %d) = %v, %d", c, id, r, e)
			}
			wantNew(t, r, c, b)
		}
	}
}

// wantNew: a replica tells that it has heard nothing.
func wantNew(t *testing.T, r *core.Replica, c api.Config, b *authn.Book) {
	t.Helper()
	if v, begun := r.View(); v != 0 || !begun {
		t.Errorf("a new one's view is %d, %v", v, begun)
	}
	if r.Done() != 0 || r.Low() != 0 || r.Drops() != 0 || len(r.History()) != 0 {
		t.Errorf("a new one tells %d, %d, %d, %v", r.Done(), r.Low(), r.Drops(), r.History())
	}
	h, _ := house.New(c.Clients, c.Goods)
	want := core.Whole(h.Records(), "")
	root, _ := merkle.Root(b, want)
	if !slices.Equal(r.Records(), want) || r.Root() != root {
		t.Errorf("a new one's state is %q with the root %x, want %q, %x", r.Records(), r.Root(), want, root)
	}
}

// 11.8: a replica that there is not, or that no call made, tells nothing.
func TestNone(t *testing.T) {
	x := four(t)
	s := laid(t, x.ask(0, 1))
	for _, r := range []*core.Replica{nil, {}} {
		for range 9 {
			if l := r.Tick(); len(l) != 0 {
				t.Errorf("Tick() = %v", l)
			}
		}
		if l := r.Receive(s); len(l) != 0 {
			t.Errorf("Receive of a request = %v", l)
		}
		if l := r.Receive("x"); len(l) != 0 {
			t.Errorf("Receive(x) = %v", l)
		}
		if v, begun := r.View(); v != 0 || begun {
			t.Errorf("View() = %d, %v", v, begun)
		}
		if r.Done() != 0 || r.Low() != 0 || r.Drops() != 0 || len(r.History()) != 0 || len(r.Records()) != 0 || r.Root() != "" {
			t.Errorf("it tells %d, %d, %d, %v, %v, %q", r.Done(), r.Low(), r.Drops(), r.History(), r.Records(), r.Root())
		}
	}
}

// 11.2: the chain's record ahead of, between and behind others, in new memory.
func TestWhole(t *testing.T) {
	chain := api.Record{Key: "chain", Value: "c"}
	for at := range 4 {
		l := []api.Record{{Key: "a", Value: "1"}, {Key: "chaim", Value: "2"}, {Key: "chaina", Value: "3"}, {Key: "z", Value: "4"}}[max(0, 2-at):]
		if at == 3 {
			l = l[:2]
		}
		before := slices.Clone(l)
		want := slices.Insert(slices.Clone(l), min(at, 2), chain)
		got := core.Whole(l, "c")
		if !slices.Equal(got, want) || !slices.Equal(l, before) {
			t.Errorf("Whole(%q) = %q, want %q; handed in was %q", l, got, want, before)
		}
		got[0].Value = "changed"
		if !slices.Equal(l, before) {
			t.Errorf("Whole's answer is the list that was handed in")
		}
	}
	for _, l := range [][]api.Record{nil, {}} {
		if got := core.Whole(l, ""); !slices.Equal(got, []api.Record{{Key: "chain"}}) {
			t.Errorf("Whole of none = %q", got)
		}
	}
	// What lies behind a list's end stays, too.
	long := []api.Record{{Key: "a"}, {Key: "b"}}
	core.Whole(long[:1], "c")
	if long[1].Key != "b" {
		t.Errorf("behind the list there is %q", long[1])
	}
}

// 11.2: the chain's record of a house stands between its books and its time.
func TestWholeOfHouse(t *testing.T) {
	h, _ := house.New(2, 1)
	var keys []string
	for _, r := range core.Whole(h.Records(), "c") {
		keys = append(keys, r.Key)
	}
	if want := []string{"acct/00", "acct/01", "book/0", "chain", "now"}; !slices.Equal(keys, want) {
		t.Errorf("the keys are %q, want %q", keys, want)
	}
}

// 11.2: the chain behind a batch is the digest of both, as two texts.
func TestLink(t *testing.T) {
	keyed, _ := authn.NewKeyed(nil)
	for _, b := range []*authn.Book{authn.NewBook(), keyed} {
		for _, chain := range []string{"", "c", strings.Repeat("c", 32)} {
			for _, batch := range []string{"", "\x00", "batch", strings.Repeat("b", 300)} {
				x, _ := wire.PutText(chain)
				y, _ := wire.PutText(batch)
				if got, want := core.Link(b, chain, batch), b.Digest(x+y); got != want || got == "" {
					t.Errorf("Link(%q, %q) = %x, want %x", chain, batch, got, want)
				}
			}
		}
		if core.Link(b, "a", "bc") == core.Link(b, "ab", "c") {
			t.Errorf("two chains are one")
		}
		long := strings.Repeat("x", api.MaxText)
		if core.Link(b, long, long) == "" || core.Link(b, long+"x", "") != "" || core.Link(b, "", long+"x") != "" {
			t.Errorf("a chain of what is no text, or none of the longest one")
		}
	}
	for _, b := range []*authn.Book{nil, {}} {
		if got := core.Link(b, "a", "b"); got != "" {
			t.Errorf("Link without a book = %x", got)
		}
	}
}

// The chapter's example: a request to all, two rounds: each has executed the number 1.
func TestExample(t *testing.T) {
	x := four(t)
	x.toAll(x.ask(0, 1))
	x.round()
	x.round()
	for i, r := range x.all {
		if r.Done() != 1 || len(r.History()) != 1 {
			t.Errorf("%d has executed %d: %+v", i, r.Done(), r.History())
		}
	}
	x.audit()
}
