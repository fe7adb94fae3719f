package client_test

import (
	"math"
	"strings"
	"testing"

	"gavel/api"
	"gavel/authn"
	"gavel/client"
)

// 12.1: each field of a consortium, at its edges and beyond them.
func TestNewOfConsortiums(t *testing.T) {
	most := api.Config{Faults: 4, Clients: 16, Goods: 4, Patience: 64}
	least := api.Config{Faults: 1, Clients: 1, Goods: 1, Patience: 1}
	fields := []func(c *api.Config) *int{
		func(c *api.Config) *int { return &c.Faults },
		func(c *api.Config) *int { return &c.Clients },
		func(c *api.Config) *int { return &c.Goods },
		func(c *api.Config) *int { return &c.Patience },
	}
	for i, field := range fields {
		for _, n := range []int{math.MinInt, -1, 0, *field(&most) + 1, math.MaxInt} {
			c := least
			*field(&c) = n
			if x, e := client.New(c, 0, authn.NewBook()); x != nil || e != api.ErrArg {
				t.Errorf("New(%+v), field %d = %v, %d", c, i, x, e)
			}
		}
		for _, n := range []int{1, *field(&most)} {
			for _, c := range []api.Config{least, most} {
				*field(&c) = n
				newClient(t, c, 0, authn.NewBook())
			}
		}
	}
}

// 12.1: who may be a client, and what a new one tells.
func TestNew(t *testing.T) {
	for name, b := range bothBooks(t) {
		for _, clients := range []int{1, 2, 15, 16} {
			c := api.Config{Faults: 1, Clients: clients, Goods: 1, Patience: 3}
			for _, id := range []int{math.MinInt, -1, clients, clients + 1, 16, 100, math.MaxInt} {
				if x, e := client.New(c, id, b); x != nil || e != api.ErrArg {
					t.Errorf("%s: New(%+v, %d) = %v, %d", name, c, id, x, e)
				}
			}
			for id := range clients {
				x := newClient(t, c, id, b)
				wantStand(t, name+": a new one", x, false)
				if l := x.Tick(); len(l) != 0 {
					t.Errorf("%s: a new one's Tick() = %v", name, l)
				}
				if x.Receive(reply(t, b, 0, id, 1, "r")) {
					t.Errorf("%s: a new one takes a reply", name)
				}
			}
		}
	}
}

// 12.1: there is no client without a book.
func TestNewWithoutABook(t *testing.T) {
	for _, b := range []*authn.Book{nil, {}} {
		if x, e := client.New(ofFaults(1), 0, b); x != nil || e != api.ErrArg {
			t.Errorf("New without a book = %v, %d", x, e)
		}
	}
}

// A book of secrets that has none for the client: it can sign nothing, and nothing happens.
func TestNewWithoutASecret(t *testing.T) {
	secrets := strings.Split(strings.Repeat("s ", api.FirstClient)+"s", " ")
	b, e := authn.NewKeyed(secrets)
	if e != api.OK {
		t.Fatal(e)
	}
	x := newClient(t, ofFaults(1), 0, b)
	request(t, x, "op")
	y := newClient(t, ofFaults(1), 1, b)
	l, e := y.Request("op")
	wantNone(t, "Request without a secret", l, e, api.ErrNone)
	l, e = y.Ask("k")
	wantNone(t, "Ask without a secret", l, e, api.ErrNone)
	l, e = y.Request(strings.Repeat("x", 257))
	wantNone(t, "Request of too much without a secret", l, e, api.ErrArg)
	wantStand(t, "without a secret", y, false)
}

// 12.5: a client that there is not, or that no call made.
func TestNone(t *testing.T) {
	b := authn.NewBook()
	s := reply(t, b, 0, 0, 1, "r")
	for _, x := range []*client.Client{nil, {}} {
		for _, op := range []string{"", "op", strings.Repeat("x", 257)} {
			l, e := x.Request(op)
			wantNone(t, "Request of none", l, e, api.ErrArg)
		}
		for range 9 {
			if l := x.Tick(); len(l) != 0 {
				t.Errorf("Tick() of none = %v", l)
			}
		}
		for _, s := range []string{"", "x", s} {
			if x.Receive(s) {
				t.Errorf("Receive(%q) of none", s)
			}
		}
		for _, key := range []string{"", "k", strings.Repeat("k", 65)} {
			l, e := x.Ask(key)
			wantNone(t, "Ask of none", l, e, api.ErrArg)
		}
		if x.Waits() || len(x.Answers()) != 0 {
			t.Errorf("none waits %v, with the answers %v", x.Waits(), x.Answers())
		}
	}
}

// The chapter's example.
func TestExample(t *testing.T) {
	b := authn.NewBook()
	x := newClient(t, ofFaults(1), 1, b)
	if l := request(t, x, "op"); len(l) != 4 {
		t.Fatalf("Request: to %d", len(l))
	}
	steps := []struct {
		from  int
		text  string
		taken bool
	}{{0, "r", true}, {0, "r", false}, {1, "another", true}, {2, "r", true}}
	for i, s := range steps {
		if !x.Waits() {
			t.Errorf("step %d: it waits no more", i)
		}
		if got := x.Receive(reply(t, b, s.from, 1, 1, s.text)); got != s.taken {
			t.Errorf("step %d: %v, want %v", i, got, s.taken)
		}
	}
	wantStand(t, "behind it", x, false, client.Answer{Stamp: 1, Text: "r"})
}
