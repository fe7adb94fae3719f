package client_test

import (
	"slices"
	"strconv"
	"strings"
	"testing"

	"gavel/api"
	"gavel/authn"
	"gavel/client"
)

// answered lets f + 1 replicas say alike what came of a request.
func answered(t *testing.T, c api.Config, b *authn.Book, x *client.Client, id, stamp int, text string) {
	t.Helper()
	for i := range c.Faults + 1 {
		if !x.Waits() || !x.Receive(reply(t, b, i, id, stamp, text)) {
			t.Fatalf("the reply of %d to the stamp %d is not taken", i, stamp)
		}
	}
	if x.Waits() {
		t.Fatalf("it waits behind the answer to the stamp %d", stamp)
	}
}

// 12.2: the message, its stamps one by one, and to whom it goes, for all f and clients of both books.
func TestRequest(t *testing.T) {
	for name, b := range bothBooks(t) {
		for f := 1; f <= 4; f++ {
			c := ofFaults(f)
			for id := range c.Clients {
				x := newClient(t, c, id, b)
				for stamp, op := range []string{"", "op", "op", strings.Repeat("x", 256), "\x00\xff"} {
					l := request(t, x, op)
					wantSent(t, name+": Request", c, b, l, id, api.Body{Kind: api.KindRequest, Client: id, Stamp: stamp + 1, Text: op})
					if !x.Waits() {
						t.Errorf("%s: it does not wait behind a request", name)
					}
					answered(t, c, b, x, id, stamp+1, "r")
				}
			}
		}
	}
}

// 12.2: a request of too much, and one while another one waits; neither changes anything.
func TestRequestRefused(t *testing.T) {
	b := authn.NewBook()
	c := ofFaults(2)
	x := newClient(t, c, 1, b)
	long := strings.Repeat("x", 257)
	l, e := x.Request(long)
	wantNone(t, "Request of 257 bytes", l, e, api.ErrArg)
	wantStand(t, "behind it", x, false)
	l = request(t, x, "op")
	wantSent(t, "the first one", c, b, l, 1, api.Body{Kind: api.KindRequest, Client: 1, Stamp: 1, Text: "op"})
	for _, op := range []string{"op", "", "other", strings.Repeat("x", 256)} {
		l, e := x.Request(op)
		wantNone(t, "Request while it waits", l, e, api.ErrThere)
	}
	l, e = x.Request(long)
	wantNone(t, "Request of 257 bytes while it waits", l, e, api.ErrArg)
	answered(t, c, b, x, 1, 1, "r")
	l = request(t, x, "next")
	wantSent(t, "the next one", c, b, l, 1, api.Body{Kind: api.KindRequest, Client: 1, Stamp: 2, Text: "next"})
}

// R2: a request that is refused lets the book sign nothing, and sends nothing else later.
func TestRequestRefusedSignsNothing(t *testing.T) {
	b, twin := authn.NewBook(), authn.NewBook()
	for i, book := range []*authn.Book{b, twin} {
		x := newClient(t, ofFaults(1), 0, book)
		request(t, x, "op")
		if i == 0 {
			x.Request("other")
			x.Request(strings.Repeat("x", 257))
			x.Ask("")
			x.Ask(strings.Repeat("k", 65))
			for range 4 {
				x.Tick()
			}
		}
	}
	if p, q := signedSoFar(t, b, "at last"), signedSoFar(t, twin, "at last"); p != q {
		t.Errorf("the next signature is %q, want %q", p, q)
	}
	x := newClient(t, ofFaults(1), 0, b).At(api.MaxStamp)
	x.Request("full")
	if p, q := signedSoFar(t, b, "behind"), signedSoFar(t, twin, "behind"); p != q {
		t.Errorf("the signature behind ErrFull is %q, want %q", p, q)
	}
}

// 12.2: the stamp 2^40 is the last one.
func TestRequestFull(t *testing.T) {
	b := authn.NewBook()
	c := ofFaults(1)
	x := newClient(t, c, 2, b).At(api.MaxStamp - 1)
	l := request(t, x, "last")
	wantSent(t, "the last one", c, b, l, 2, api.Body{Kind: api.KindRequest, Client: 2, Stamp: api.MaxStamp, Text: "last"})
	l, e := x.Request("op")
	wantNone(t, "Request while the last one waits", l, e, api.ErrThere)
	answered(t, c, b, x, 2, api.MaxStamp, "r")
	for range 2 {
		l, e = x.Request("op")
		wantNone(t, "Request behind the last one", l, e, api.ErrFull)
		l, e = x.Request(strings.Repeat("x", 257))
		wantNone(t, "Request of 257 bytes behind the last one", l, e, api.ErrArg)
	}
	wantStand(t, "behind all", x, false, client.Answer{Stamp: api.MaxStamp, Text: "r"})
	if l := x.Tick(); len(l) != 0 {
		t.Errorf("Tick() behind all = %v", l)
	}
}

// 12.2: at each fourth tick behind the request the same message goes to all.
func TestTick(t *testing.T) {
	for f := 1; f <= 4; f++ {
		b := authn.NewBook()
		c := ofFaults(f)
		x := newClient(t, c, 0, b)
		for ahead := range 7 { // ticks at which nothing waits do not count
			for range ahead {
				if l := x.Tick(); len(l) != 0 {
					t.Fatalf("Tick() while it does not wait = %v", l)
				}
			}
			stamp := ahead + 1
			sent := request(t, x, "op "+strconv.Itoa(ahead))
			for i := 1; i <= 8+ahead; i++ { // answered at each place between two sendings
				l := x.Tick()
				if i%4 != 0 && len(l) != 0 || i%4 == 0 && !slices.Equal(l, sent) {
					t.Fatalf("f %d, request %d: tick %d sends %v, want %v at each fourth one", f, stamp, i, l, sent)
				}
			}
			answered(t, c, b, x, 0, stamp, "r")
		}
		for range 9 {
			if l := x.Tick(); len(l) != 0 {
				t.Fatalf("Tick() behind the answer = %v", l)
			}
		}
	}
}

// 12.2: replies that come and do not suffice, and requests that are refused, let the ticks go on as they do.
func TestTickAmongReplies(t *testing.T) {
	b := authn.NewBook()
	x := newClient(t, ofFaults(2), 0, b)
	sent := request(t, x, "op")
	for i := 1; i <= 8; i++ {
		x.Receive(reply(t, b, i%7, 0, 1, strconv.Itoa(i)))
		x.Request("other")
		x.Ask("key")
		x.Receive("no message")
		l := x.Tick()
		if i%4 != 0 && len(l) != 0 || i%4 == 0 && !slices.Equal(l, sent) {
			t.Errorf("tick %d sends %v, want %v at each fourth one", i, l, sent)
		}
	}
}

// R3: what is answered is the asker's own.
func TestRequestIsNewMemory(t *testing.T) {
	b := authn.NewBook()
	c := ofFaults(1)
	x := newClient(t, c, 0, b)
	l := request(t, x, "op")
	want := slices.Clone(l)
	for i := range l {
		l[i] = api.Sent{To: 9, Bytes: "spoilt"}
	}
	for range 3 {
		x.Tick()
	}
	again := x.Tick()
	if !slices.Equal(again, want) {
		t.Errorf("it is sent again as %v, want %v", again, want)
	}
	for i := range again {
		again[i] = api.Sent{}
	}
	answered(t, c, b, x, 0, 1, "r")
	a := x.Answers()
	a[0] = client.Answer{Stamp: 7, Text: "spoilt"}
	_ = append(a, client.Answer{Stamp: 8})
	request(t, x, "next")
	answered(t, c, b, x, 0, 2, "q")
	wantStand(t, "behind all", x, false, client.Answer{Stamp: 1, Text: "r"}, client.Answer{Stamp: 2, Text: "q"})
}
