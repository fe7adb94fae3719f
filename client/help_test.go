package client_test

import (
	"slices"
	"strconv"
	"testing"

	"gavel/api"
	"gavel/authn"
	"gavel/client"
	"gavel/wire"
)

// chance is a row of numbers that looks like chance and is always the same.
func chance(seed uint32) func(n int) int {
	return func(n int) int {
		seed = seed*1664525 + 1013904223
		return int(seed>>8) % n
	}
}

// ofFaults is a consortium that f liars can not mislead.
func ofFaults(f int) api.Config {
	return api.Config{Faults: f, Clients: 3, Goods: 1, Patience: 3}
}

// bothBooks are a book that numbers, and one with a secret for everybody.
func bothBooks(t *testing.T) map[string]*authn.Book {
	t.Helper()
	var secrets []string
	for i := range api.MaxWho + 1 {
		secrets = append(secrets, "secret of "+strconv.Itoa(i))
	}
	b, e := authn.NewKeyed(secrets)
	if e != api.OK {
		t.Fatalf("NewKeyed = %d", e)
	}
	return map[string]*authn.Book{"numbers": authn.NewBook(), "secrets": b}
}

func newClient(t *testing.T, c api.Config, id int, b *authn.Book) *client.Client {
	t.Helper()
	x, e := client.New(c, id, b)
	if x == nil || e != api.OK {
		t.Fatalf("New(%+v, %d) = %v, %d", c, id, x, e)
	}
	return x
}

func seal(t *testing.T, b *authn.Book, who int, x api.Body) api.Signed {
	t.Helper()
	m, e := b.Seal(who, x)
	if e != api.OK {
		t.Fatalf("Seal(%d, %+v) = %d", who, x, e)
	}
	return m
}

func laid(t *testing.T, m api.Signed) string {
	t.Helper()
	s, e := wire.PutSigned(m)
	if e != api.OK {
		t.Fatalf("PutSigned(%+v) = %d", m, e)
	}
	return s
}

// bytesBy are the bytes of a body signed by somebody.
func bytesBy(t *testing.T, b *authn.Book, who int, x api.Body) string {
	t.Helper()
	return laid(t, seal(t, b, who, x))
}

// reply is the bytes of a replica's reply.
func reply(t *testing.T, b *authn.Book, who, id, stamp int, text string) string {
	t.Helper()
	return bytesBy(t, b, who, api.Body{Kind: api.KindReply, Client: id, Stamp: stamp, Text: text})
}

// request asks for an op, which must go well.
func request(t *testing.T, x *client.Client, op string) []api.Sent {
	t.Helper()
	l, e := x.Request(op)
	if e != api.OK {
		t.Fatalf("Request(%q) = %d", op, e)
	}
	return l
}

// wantSent: a body went, signed by the client, to each replica, 0 first.
func wantSent(t *testing.T, what string, c api.Config, b *authn.Book, l []api.Sent, id int, want api.Body) {
	t.Helper()
	s := bytesBy(t, b, api.FirstClient+id, want)
	if len(l) != 3*c.Faults+1 {
		t.Fatalf("%s: %d are sent, want %d", what, len(l), 3*c.Faults+1)
	}
	for i, m := range l {
		if m.To != i || m.Bytes != s {
			t.Errorf("%s: %+v at %d, want %+v", what, m, i, api.Sent{To: i, Bytes: s})
		}
	}
}

// wantNone: a call answered an error, and nothing beside it.
func wantNone(t *testing.T, what string, l []api.Sent, e, want api.Errno) {
	t.Helper()
	if len(l) != 0 || e != want {
		t.Errorf("%s = %v, %d, want none, %d", what, l, e, want)
	}
}

// wantStand: whether a client waits, what answers it has, and that it keeps nothing too many.
func wantStand(t *testing.T, what string, x *client.Client, waits bool, want ...client.Answer) {
	t.Helper()
	if x.Waits() != waits || !slices.Equal(x.Answers(), want) {
		t.Errorf("%s: waits %v with the answers %+v, want %v, %+v", what, x.Waits(), x.Answers(), waits, want)
	}
	if s := x.Overkept(); s != "" {
		t.Errorf("%s: it keeps %s", what, s)
	}
}

// signedSoFar is how many signatures a book that numbers has given, by one more, of a text that nobody else signs.
func signedSoFar(t *testing.T, b *authn.Book, text string) string {
	t.Helper()
	s, e := b.Sign(api.MaxWho, text)
	if e != api.OK {
		t.Fatalf("Sign = %d", e)
	}
	return s
}
