package client_test

import (
	"fmt"
	"strings"
	"testing"

	"gavel/api"
	"gavel/authn"
	"gavel/client"
	"gavel/wire"
)

// altered is a text with one bit of a byte turned.
func altered(s string, at int) string {
	b := []byte(s)
	b[at] ^= 1
	return string(b)
}

// wrongReplies are bytes that client 1 of a consortium, which waits for the stamp 2, must not take, by what is wrong.
func wrongReplies(t *testing.T, c api.Config, b *authn.Book) map[string]string {
	t.Helper()
	n := 3*c.Faults + 1
	right := api.Body{Kind: api.KindReply, Client: 1, Stamp: 2, Text: "r"}
	m := seal(t, b, 0, right)
	s := laid(t, m)
	with := func(change func(m *api.Signed)) string {
		x := m
		change(&x)
		return laid(t, x)
	}
	unlike := func(change func(x *api.Body)) string {
		x := right
		change(&x)
		return bytesBy(t, b, 0, x)
	}
	other := seal(t, b, 0, api.Body{Kind: api.KindReply, Client: 1, Stamp: 2, Text: "q"})
	text := seal(t, b, 0, right)
	text.Body = "no body"
	text.Sig, _ = b.Sign(0, text.Body)
	return map[string]string{
		"nothing":                      "",
		"no message":                   "x",
		"one byte":                     "\x00",
		"a beginning":                  s[:len(s)-1],
		"a byte more":                  s + "\x00",
		"two of them":                  s + s,
		"too many bytes":               s + strings.Repeat("\x00", api.MaxBytes),
		"another text's signature":     with(func(m *api.Signed) { m.Sig = other.Sig }),
		"another signer's name":        with(func(m *api.Signed) { m.From = 1 }),
		"another signer's signature":   with(func(m *api.Signed) { m.Sig = seal(t, b, 1, right).Sig }),
		"a client's signature":         with(func(m *api.Signed) { m.Sig = seal(t, b, 101, right).Sig }),
		"no signature":                 with(func(m *api.Signed) { m.Sig = "" }),
		"a signature cut short":        with(func(m *api.Signed) { m.Sig = m.Sig[:len(m.Sig)-1] }),
		"an altered signature":         with(func(m *api.Signed) { m.Sig = altered(m.Sig, len(m.Sig)-1) }),
		"an altered body":              with(func(m *api.Signed) { m.Body = altered(m.Body, len(m.Body)-2) }),
		"signed, and no body":          laid(t, text),
		"to client 0":                  unlike(func(x *api.Body) { x.Client = 0 }),
		"to client 2":                  unlike(func(x *api.Body) { x.Client = 2 }),
		"to no client":                 unlike(func(x *api.Body) { x.Client = 15 }),
		"the stamp ahead":              unlike(func(x *api.Body) { x.Stamp = 1 }),
		"the next stamp":               unlike(func(x *api.Body) { x.Stamp = 3 }),
		"the greatest stamp":           unlike(func(x *api.Body) { x.Stamp = api.MaxStamp }),
		"a request":                    unlike(func(x *api.Body) { x.Kind = api.KindRequest }),
		"a status":                     unlike(func(x *api.Body) { x.Kind, x.Text = api.KindStatus, "" }),
		"an ask":                       unlike(func(x *api.Body) { x.Kind, x.Stamp = api.KindAsk, 0 }),
		"by the first that is none":    bytesBy(t, b, n, right),
		"by the client itself":         bytesBy(t, b, 101, right),
		"by another client":            bytesBy(t, b, 100, right),
		"by the last one who can sign": bytesBy(t, b, 255, right),
	}
}

// 12.3: what is no reply to what waits is not taken, and changes nothing: all replicas can still be heard.
func TestReceiveRefuses(t *testing.T) {
	for name, b := range bothBooks(t) {
		for f := 1; f <= 4; f++ {
			c := ofFaults(f)
			x := newClient(t, c, 1, b)
			request(t, x, "first")
			answered(t, c, b, x, 1, 1, "r")
			request(t, x, "second")
			wrong := wrongReplies(t, c, b)
			for i := range f + 1 {
				for what, s := range wrong {
					if x.Receive(s) {
						t.Errorf("%s, f %d, with %d replies: %s is taken", name, f, i, what)
					}
				}
				wantStand(t, name, x, true, client.Answer{Stamp: 1, Text: "r"})
				if !x.Receive(reply(t, b, i, 1, 2, "r")) {
					t.Errorf("%s, f %d: the reply of %d is not taken", name, f, i)
				}
			}
			wantStand(t, name, x, false, client.Answer{Stamp: 1, Text: "r"}, client.Answer{Stamp: 2, Text: "r"})
		}
	}
}

// 12.3: of a replica one reply to a stamp is taken, whatever it says then.
func TestReceiveTwice(t *testing.T) {
	for f := 1; f <= 4; f++ {
		b := authn.NewBook()
		c := ofFaults(f)
		n := 3*f + 1
		x := newClient(t, c, 0, b)
		request(t, x, "op")
		for i := range f {
			if !x.Receive(reply(t, b, i, 0, 1, "r")) {
				t.Errorf("f %d: the reply of %d is not taken", f, i)
			}
		}
		for i := range f {
			for _, text := range []string{"r", "q", ""} {
				if x.Receive(reply(t, b, i, 0, 1, text)) {
					t.Errorf("f %d: a second reply of %d, %q, is taken", f, i, text)
				}
			}
			again := api.Body{Kind: api.KindReply, View: 3, Client: 0, Stamp: 1, Text: "r"}
			if x.Receive(bytesBy(t, b, i, again)) {
				t.Errorf("f %d: a second reply of %d, of another view, is taken", f, i)
			}
		}
		wantStand(t, "behind f replies", x, true)
		if !x.Receive(reply(t, b, n-1, 0, 1, "r")) {
			t.Errorf("f %d: the last replica's reply is not taken", f)
		}
		wantStand(t, "behind f + 1", x, false, client.Answer{Stamp: 1, Text: "r"})
		request(t, x, "next")
		for i := range f + 1 { // who replied to the stamp ahead may reply to this one
			if !x.Receive(reply(t, b, i, 0, 2, "q")) {
				t.Errorf("f %d: the reply of %d to the next stamp is not taken", f, i)
			}
		}
		wantStand(t, "behind the next one", x, false, client.Answer{Stamp: 1, Text: "r"}, client.Answer{Stamp: 2, Text: "q"})
	}
}

// 12.3: f + 1 alike among others, in all places; replies behind the answer.
func TestReceiveAlike(t *testing.T) {
	for f := 1; f <= 4; f++ {
		n := 3*f + 1
		for shift := range n {
			b := authn.NewBook()
			x := newClient(t, ofFaults(f), 2, b)
			request(t, x, "op")
			at := func(i int) int { return (i + shift) % n }
			say := func(i int, text string) {
				t.Helper()
				if !x.Receive(reply(t, b, at(i), 2, 1, text)) {
					t.Errorf("f %d: the reply of %d is not taken", f, at(i))
				}
			}
			for i := range f { // f alike, f alike, and f by themselves: no f + 1
				say(i, "r")
				say(f+i, "q")
				say(2*f+i, fmt.Sprint(i))
			}
			wantStand(t, "behind 3 f replies", x, true)
			say(3*f, "r")
			wantStand(t, "behind the last one", x, false, client.Answer{Stamp: 1, Text: "r"})
			for i := range n {
				if x.Receive(reply(t, b, i, 2, 1, "r")) {
					t.Errorf("f %d: a reply of %d behind the answer is taken", f, i)
				}
			}
			wantStand(t, "behind all", x, false, client.Answer{Stamp: 1, Text: "r"})
		}
	}
}

// 12.3: where all replicas say something else there is no answer, and it goes on waiting.
func TestReceiveUnlike(t *testing.T) {
	b := authn.NewBook()
	x := newClient(t, ofFaults(1), 0, b)
	sent := request(t, x, "op")
	for i := range 4 {
		if !x.Receive(reply(t, b, i, 0, 1, fmt.Sprint(i))) {
			t.Errorf("the reply of %d is not taken", i)
		}
	}
	for range 3 {
		x.Tick()
	}
	if l := x.Tick(); len(l) != len(sent) {
		t.Errorf("the fourth tick sends %v", l)
	}
	wantStand(t, "behind all", x, true)
}

// 12.3: texts are held against each other byte by byte; the views that replies name are not.
func TestReceiveTexts(t *testing.T) {
	long := strings.Repeat("x", 256)
	for _, text := range []string{"", "\x00", "r", "\xff\xfe", long} {
		b := authn.NewBook()
		x := newClient(t, ofFaults(1), 0, b)
		request(t, x, "op")
		for i, near := range []string{text + " ", text + "\x00"} {
			if len(near) <= 256 && !x.Receive(reply(t, b, i, 0, 1, near)) {
				t.Errorf("%q is not taken", near)
			}
		}
		for i := range 2 {
			wantStand(t, "ahead of f + 1", x, true)
			s := bytesBy(t, b, 2+i, api.Body{Kind: api.KindReply, View: i * api.MaxView, Client: 0, Stamp: 1, Text: text})
			if !x.Receive(s) {
				t.Errorf("%q in the view %d is not taken", text, i*api.MaxView)
			}
		}
		wantStand(t, "behind f + 1", x, false, client.Answer{Stamp: 1, Text: text})
	}
}

// 12.3: a reply does not let a book number or sign anything.
func TestReceiveSignsNothing(t *testing.T) {
	b, twin := authn.NewBook(), authn.NewBook()
	for i, book := range []*authn.Book{b, twin} {
		x := newClient(t, ofFaults(1), 1, book)
		request(t, x, "first")
		for j := range 4 {
			s := reply(t, book, j, 1, 1, "r")
			if i == 0 {
				x.Receive(s)
				x.Receive(altered(s, len(s)-1))
			}
		}
	}
	if p, q := signedSoFar(t, b, "at last"), signedSoFar(t, twin, "at last"); p != q {
		t.Errorf("the next signature is %q, want %q", p, q)
	}
	if p, q := b.Digest("x"), twin.Digest("x"); p != q {
		t.Errorf("the next digest is %q, want %q", p, q)
	}
}

// account is a second reckoning of what a client holds: all replies that were offered to the stamp that waits, in order.
type account struct {
	f, id, stamp int
	waits        bool
	heard        []api.Signed
	answers      []client.Answer
}

// offer works out whether a right reply is taken, and whether there is an answer, from all that was heard.
func (a *account) offer(t *testing.T, m api.Signed) bool {
	b, e := wire.Of(m.Body)
	if e != api.OK {
		t.Fatal(e)
	}
	if !a.waits || m.From > 3*a.f || b.Kind != api.KindReply || b.Client != a.id || b.Stamp != a.stamp {
		return false
	}
	for _, h := range a.heard {
		if h.From == m.From {
			return false
		}
	}
	a.heard = append(a.heard, m)
	n := 0
	for _, h := range a.heard {
		if x, _ := wire.Of(h.Body); x.Text == b.Text {
			n++
		}
	}
	if n == a.f+1 {
		a.answers = append(a.answers, client.Answer{Stamp: a.stamp, Text: b.Text})
		a.waits, a.heard = false, nil
	}
	return true
}

// 12.2 and 12.3: many calls, held one by one against a second reckoning.
func TestScripts(t *testing.T) {
	for seed := range 60 {
		dice := chance(uint32(seed))
		c := ofFaults(1 + seed%4)
		b := authn.NewBook()
		a := &account{f: c.Faults, id: seed % 3}
		x := newClient(t, c, a.id, b)
		for step := range 400 {
			switch dice(8) {
			case 0:
				_, e := x.Request("op")
				if a.waits != (e == api.ErrThere) || !a.waits != (e == api.OK) {
					t.Fatalf("seed %d, step %d: Request = %d while it waits: %v", seed, step, e, a.waits)
				}
				if !a.waits {
					a.stamp, a.waits = a.stamp+1, true
				}
			case 1:
				x.Tick()
			default:
				who := dice(3*c.Faults + 2) // the last one is no replica
				m := seal(t, b, who, api.Body{Kind: api.KindReply, Client: (a.id + dice(8)/7) % 3, Stamp: max(1, a.stamp-dice(6)/5), Text: fmt.Sprint(dice(3))})
				want := a.offer(t, m)
				if got := x.Receive(laid(t, m)); got != want {
					t.Fatalf("seed %d, step %d: Receive = %v, want %v", seed, step, got, want)
				}
			}
			wantStand(t, fmt.Sprintf("seed %d, step %d", seed, step), x, a.waits, a.answers...)
		}
		if len(a.answers) < 5 {
			t.Errorf("seed %d: only %d answers", seed, len(a.answers))
		}
	}
}
