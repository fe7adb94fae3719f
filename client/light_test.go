package client_test

import (
	"fmt"
	"slices"
	"strings"
	"testing"

	"gavel/api"
	"gavel/authn"
	"gavel/client"
	"gavel/merkle"
	"gavel/wire"
)

// shown is what a light client is sent, ahead of its laying; a test spoils parts of it.
type shown struct {
	c     api.Config
	b     *authn.Book
	key   string
	from  int
	body  api.Body
	spoil func(m *api.Signed)      // behind the signing
	tail  func(s string) string    // behind the laying
	sign  func(body string) string // bytes to sign in the place of the body's
}

// rootOf is the root of records.
func rootOf(t *testing.T, b *authn.Book, l []api.Record) string {
	t.Helper()
	root, e := merkle.Root(b, l)
	if e != api.OK {
		t.Fatalf("Root = %d", e)
	}
	return root
}

// proofOf is the bytes of a proof of what there is at a key.
func proofOf(t *testing.T, b *authn.Book, l []api.Record, key string) string {
	t.Helper()
	p, e := merkle.Prove(b, l, key)
	if e != api.OK {
		t.Fatalf("Prove(%q) = %d", key, e)
	}
	s, e := wire.PutProof(p)
	if e != api.OK {
		t.Fatalf("PutProof = %d", e)
	}
	return s
}

// checks are checkpoints of one root by many.
func checks(t *testing.T, b *authn.Book, seq int, root string, who ...int) []api.Signed {
	t.Helper()
	var l []api.Signed
	for _, i := range who {
		l = append(l, seal(t, b, i, api.Body{Kind: api.KindCheck, Seq: seq, Digest: root}))
	}
	return l
}

// upTo are the numbers below n.
func upTo(n int) []int {
	var l []int
	for i := range n {
		l = append(l, i)
	}
	return l
}

// letters is a state with two records.
func letters() []api.Record {
	return []api.Record{{Key: "a", Value: "1"}, {Key: "c", Value: "3"}}
}

// rightly is a proof of a key of a state at a number, with the checkpoints of the first f + 1.
func rightly(t *testing.T, c api.Config, b *authn.Book, seq int, l []api.Record, key string) *shown {
	t.Helper()
	root := rootOf(t, b, l)
	return &shown{c: c, b: b, key: key, from: 3 * c.Faults, body: api.Body{
		Kind: api.KindProof, Seq: seq, Digest: root, Text: proofOf(t, b, l, key), List: checks(t, b, seq, root, upTo(c.Faults+1)...),
	}}
}

// verify lays it and asks what it shows.
func (x *shown) verify(t *testing.T, signs *authn.Book) (client.Light, api.Errno) {
	t.Helper()
	s, e := wire.Bytes(x.body)
	if e != api.OK {
		t.Fatalf("Bytes(%+v) = %d", x.body, e)
	}
	if x.sign != nil {
		s = x.sign(s)
	}
	m := api.Signed{From: x.from, Body: s}
	m.Sig, e = signs.Sign(x.from, s)
	if e != api.OK {
		t.Fatalf("Sign = %d", e)
	}
	if x.spoil != nil {
		x.spoil(&m)
	}
	s = laid(t, m)
	if x.tail != nil {
		s = x.tail(s)
	}
	return client.Verify(x.c, x.b, x.key, s)
}

// wantLight: what it shows, and why it shows nothing.
func wantLight(t *testing.T, what string, x *shown, want client.Light, why api.Errno) {
	t.Helper()
	if l, e := x.verify(t, x.b); l != want || e != why {
		t.Errorf("%s: Verify(%q) = %+v, %d, want %+v, %d", what, x.key, l, e, want, why)
	}
}

// 12.4: the message that asks for a key, of 1 to 64 bytes; it may be asked while a request waits, and lets nothing wait.
func TestAsk(t *testing.T) {
	for name, b := range bothBooks(t) {
		for f := 1; f <= 4; f++ {
			c := ofFaults(f)
			x := newClient(t, c, 2, b)
			for range 2 {
				for _, key := range []string{"k", "\x00", "account/0", strings.Repeat("k", 64)} {
					l, e := x.Ask(key)
					if e != api.OK {
						t.Errorf("%s: Ask(%q) = %d", name, key, e)
					}
					wantSent(t, name+": Ask", c, b, l, 2, api.Body{Kind: api.KindAsk, Client: 2, Text: key})
				}
				for _, key := range []string{"", strings.Repeat("k", 65), strings.Repeat("k", 1<<21)} {
					l, e := x.Ask(key)
					wantNone(t, name+": Ask of no key", l, e, api.ErrArg)
				}
				if x.Waits() {
					answered(t, c, b, x, 2, 1, "r")
					break
				}
				wantStand(t, name+": behind asks", x, false)
				request(t, x, "op")
			}
			wantStand(t, name+": behind all", x, false, client.Answer{Stamp: 1, Text: "r"})
		}
	}
}

// 12.4: each key that is there, and keys ahead of, between and behind them, by both books and for all f.
func TestVerify(t *testing.T) {
	for name, b := range bothBooks(t) {
		for f := 1; f <= 4; f++ {
			for n := range 6 {
				var l []api.Record
				for i := range n {
					l = append(l, api.Record{Key: fmt.Sprintf("k%d", 2*i+1), Value: strings.Repeat("v", i)})
				}
				for i := range 2*n + 1 {
					key := fmt.Sprintf("k%d", i)
					want := client.Light{Seq: 4 * (n + 1)}
					if i%2 == 1 {
						want.Value, want.Has = strings.Repeat("v", i/2), true
					}
					wantLight(t, fmt.Sprintf("%s, f %d, %d records", name, f, n), rightly(t, ofFaults(f), b, want.Seq, l, key), want, api.OK)
				}
			}
		}
	}
}

// 12.4: numbers, keys and values at their greatest.
func TestVerifyAtTheEdges(t *testing.T) {
	b := authn.NewBook()
	key, value := strings.Repeat("k", 64), strings.Repeat("v", 4096)
	l := []api.Record{{Key: key, Value: value}}
	wantLight(t, "at the greatest", rightly(t, ofFaults(1), b, api.MaxSeq, l, key), client.Light{Seq: api.MaxSeq, Value: value, Has: true}, api.OK)
	for _, key := range []string{"", strings.Repeat("k", 65)} {
		x := rightly(t, ofFaults(1), b, 4, l, "k")
		x.key = key
		wantLight(t, "of no key", x, client.Light{}, api.ErrField)
	}
}

// 12.4: who sends it does not count.
func TestVerifyOfAnySender(t *testing.T) {
	for name, b := range bothBooks(t) {
		for _, from := range []int{0, 1, 3, 4, 99, 100, 101, 102, 115, 255} {
			x := rightly(t, ofFaults(1), b, 4, letters(), "c")
			x.from = from
			wantLight(t, fmt.Sprint(name, ": from ", from), x, client.Light{Seq: 4, Value: "3", Has: true}, api.OK)
		}
	}
}

// A fault is something wrong with what is shown, and what is answered to it.
type fault struct {
	name  string
	make  func(x *shown)
	want  api.Errno
	stage int // its place in the order in which 12.4 lists the errors
}

// argFaults are of the arguments; outer ones of the message and its body, as bytes.
func argFaults() []fault {
	return []fault{
		{"no faults", func(x *shown) { x.c.Faults = 0 }, api.ErrArg, 0},
		{"five faults", func(x *shown) { x.c.Faults = 5 }, api.ErrArg, 0},
		{"no clients", func(x *shown) { x.c.Clients = 0 }, api.ErrArg, 0},
		{"17 clients", func(x *shown) { x.c.Clients = 17 }, api.ErrArg, 0},
		{"no goods", func(x *shown) { x.c.Goods = 0 }, api.ErrArg, 0},
		{"five goods", func(x *shown) { x.c.Goods = 5 }, api.ErrArg, 0},
		{"no patience", func(x *shown) { x.c.Patience = 0 }, api.ErrArg, 0},
		{"a patience of 65", func(x *shown) { x.c.Patience = 65 }, api.ErrArg, 0},
		{"no book", func(x *shown) { x.b = nil }, api.ErrArg, 0},
		{"a zero book", func(x *shown) { x.b = &authn.Book{} }, api.ErrArg, 0},
	}
}

func outerFaults() []fault {
	tail := func(f func(s string) string) func(x *shown) { return func(x *shown) { x.tail = f } }
	spoil := func(f func(m *api.Signed)) func(x *shown) { return func(x *shown) { x.spoil = f } }
	sign := func(f func(s string) string) func(x *shown) { return func(x *shown) { x.sign = f } }
	return []fault{
		{"nothing", tail(func(string) string { return "" }), api.ErrShort, 1},
		{"a byte less", tail(func(s string) string { return s[:len(s)-1] }), api.ErrShort, 1},
		{"a byte more", tail(func(s string) string { return s + "x" }), api.ErrTail, 1},
		{"a number in another form", tail(func(s string) string { return "\x80\x00" + s[1:] }), api.ErrForm, 1},
		{"from 256", tail(func(s string) string { return "\x80\x02" + s[1:] }), api.ErrField, 1},
		{"too many bytes", tail(func(s string) string { return s + strings.Repeat("x", api.MaxBytes) }), api.ErrLong, 1},
		{"another sender", spoil(func(m *api.Signed) { m.From = 0 }), api.ErrSig, 2},
		{"another signature", spoil(func(m *api.Signed) { m.Sig = altered(m.Sig, 0) }), api.ErrSig, 2},
		{"another body", spoil(func(m *api.Signed) { m.Body = altered(m.Body, len(m.Body)-1) }), api.ErrSig, 2},
		{"no body at all", sign(func(string) string { return "" }), api.ErrShort, 2},
		{"a body with a byte more", sign(func(s string) string { return s + "x" }), api.ErrTail, 2},
		{"a body of no kind", sign(func(s string) string { return "\x0e" + s[1:] }), api.ErrKind, 2},
		{"a body to a client", sign(func(s string) string { return s[:3] + "\x01" + s[4:] }), api.ErrField, 2},
	}
}

// innerFaults are of what the body says, which is {4, letters()} for f = 1.
func innerFaults() []fault {
	list := func(f func(l []api.Signed) []api.Signed) func(x *shown) {
		return func(x *shown) { x.body.List = f(slices.Clone(x.body.List)) }
	}
	text := func(f func(s string) string) func(x *shown) { return func(x *shown) { x.body.Text = f(x.body.Text) } }
	key := func(key string) func(x *shown) { return func(x *shown) { x.key = key } }
	return []fault{
		{"a state", func(x *shown) { x.body.Kind = api.KindState }, api.ErrKind, 3},
		{"what was kept", func(x *shown) { x.body.Kind = api.KindKept }, api.ErrKind, 3},
		{"one checkpoint", list(func(l []api.Signed) []api.Signed { return l[:1] }), api.ErrSig, 4},
		{"one checkpoint twice", list(func(l []api.Signed) []api.Signed { return append(l[:1], l[0]) }), api.ErrSig, 4},
		{"a forged one", list(func(l []api.Signed) []api.Signed { l[1].Sig = l[0].Sig; return l }), api.ErrSig, 4},
		{"another one's name", list(func(l []api.Signed) []api.Signed { l[1].From = 2; return l }), api.ErrSig, 4},
		{"another number", func(x *shown) { x.body.Seq += 4 }, api.ErrSig, 4},
		{"another root", func(x *shown) { x.body.Digest = "another" }, api.ErrSig, 4},
		{"no proof", text(func(string) string { return "" }), api.ErrShort, 5},
		{"a proof with a byte more", text(func(s string) string { return s + "x" }), api.ErrTail, 5},
		{"a proof of three paths", text(func(s string) string { return "\x00\x03" }), api.ErrFull, 5},
		{"a proof of 4097", text(func(s string) string { return "\x81\x20\x00" }), api.ErrField, 5},
		{"no key", key(""), api.ErrField, 6},
		{"a key of 65 bytes", key(strings.Repeat("b", 65)), api.ErrField, 6},
		{"a key beside it", key("a"), api.ErrProof, 6},
		{"a key ahead of it", key("A"), api.ErrProof, 6},
		{"a key behind it", key("d"), api.ErrProof, 6},
		{"a proof of none", text(func(string) string { return "\x00\x00" }), api.ErrProof, 6},
	}
}

// 12.4: each error by itself.
func TestVerifyErrors(t *testing.T) {
	for name, b := range bothBooks(t) {
		for _, f := range slices.Concat(argFaults(), outerFaults(), innerFaults()) {
			x := rightly(t, ofFaults(1), b, 4, letters(), "b")
			f.make(x)
			if l, e := x.verify(t, b); l != (client.Light{}) || e != f.want {
				t.Errorf("%s, %s: Verify = %+v, %d, want %d", name, f.name, l, e, f.want)
			}
		}
	}
}

// 12.4: with two and with three things wrong at once the one that is listed first is told.
func TestVerifyErrorsInOrder(t *testing.T) {
	b := authn.NewBook()
	all := slices.Concat(argFaults(), outerFaults(), innerFaults())
	try := func(l ...fault) {
		t.Helper()
		x := rightly(t, ofFaults(1), b, 4, letters(), "b")
		what := ""
		for _, f := range slices.Backward(l) { // what is to be found first may undo what others made
			f.make(x)
			what = f.name + ", " + what
		}
		if got, e := x.verify(t, b); got != (client.Light{}) || e != l[0].want {
			t.Errorf("%sVerify = %+v, %d, want %d", what, got, e, l[0].want)
		}
	}
	for _, p := range all {
		for _, q := range all {
			if p.stage >= q.stage {
				continue
			}
			try(p, q)
			for _, r := range all {
				if q.stage < r.stage && (len(p.name)+len(q.name)+len(r.name))%7 == 0 {
					try(p, q, r)
				}
			}
		}
	}
}

// oddCheck is a checkpoint whose view is not 0, which can be signed though it may not be.
func oddCheck(t *testing.T, b *authn.Book, who int, root string) api.Signed {
	t.Helper()
	s, e := wire.Bytes(api.Body{Kind: api.KindCheck, Seq: 4, Digest: root})
	if e != api.OK {
		t.Fatal(e)
	}
	s = s[:1] + "\x01" + s[2:]
	sig, e := b.Sign(who, s)
	if e != api.OK {
		t.Fatal(e)
	}
	return api.Signed{From: who, Body: s, Sig: sig}
}

// 12.4: f + 1 replicas have signed this number and this digest as a checkpoint; others do not count.
func TestVerifySigners(t *testing.T) {
	for name, b := range bothBooks(t) {
		for f := 1; f <= 4; f++ {
			n := 3*f + 1
			root := rootOf(t, b, letters())
			some := checks(t, b, 4, root, upTo(f)...)
			commit := seal(t, b, f, api.Body{Kind: api.KindCommit, Seq: 4, Digest: root})
			prepare := seal(t, b, f, api.Body{Kind: api.KindPrepare, Seq: 4, Digest: root})
			forged := seal(t, b, f, api.Body{Kind: api.KindCheck, Seq: 4, Digest: root})
			forged.Sig = some[0].Sig
			one := func(l ...api.Signed) []api.Signed { return l }
			cases := []struct {
				what string
				more []api.Signed
				want api.Errno
			}{
				{"f", nil, api.ErrSig},
				{"one more", checks(t, b, 4, root, f), api.OK},
				{"the last one more", checks(t, b, 4, root, n-1), api.OK},
				{"one twice", checks(t, b, 4, root, 0), api.ErrSig},
				{"all twice", some, api.ErrSig},
				{"one who is none", checks(t, b, 4, root, n), api.ErrSig},
				{"many who are none", checks(t, b, 4, root, n, n+1, 100, 101, 255), api.ErrSig},
				{"another number", checks(t, b, 8, root, f, f+1), api.ErrSig},
				{"another digest", checks(t, b, 4, altered(root, 0), f), api.ErrSig},
				{"another view", one(oddCheck(t, b, f, root)), api.ErrSig},
				{"a commit", one(commit), api.ErrSig},
				{"a prepare", one(prepare), api.ErrSig},
				{"a forged one", one(forged), api.ErrSig},
				{"wrong ones, and one more", slices.Concat(one(forged, commit, oddCheck(t, b, f, root)), checks(t, b, 4, root, n, f)), api.OK},
			}
			for _, k := range cases {
				for _, l := range [][]api.Signed{slices.Concat(some, k.more), slices.Concat(k.more, some)} {
					x := rightly(t, ofFaults(f), b, 4, letters(), "c")
					x.body.List = l
					want := client.Light{}
					if k.want == api.OK {
						want = client.Light{Seq: 4, Value: "3", Has: true}
					}
					wantLight(t, fmt.Sprintf("%s, f %d: %s", name, f, k.what), x, want, k.want)
				}
			}
		}
	}
}

// 12.4: the consortium that is named counts: what four replicas may show, seven may not.
func TestVerifyOfAnotherConsortium(t *testing.T) {
	b := authn.NewBook()
	x := rightly(t, ofFaults(1), b, 4, letters(), "a")
	wantLight(t, "of four", x, client.Light{Seq: 4, Value: "1", Has: true}, api.OK)
	x.c = ofFaults(2)
	wantLight(t, "of seven", x, client.Light{}, api.ErrSig)
	y := rightly(t, ofFaults(2), b, 4, letters(), "a")
	y.body.List = checks(t, b, 4, y.body.Digest, 4, 5, 6)
	wantLight(t, "of seven, by the last three", y, client.Light{Seq: 4, Value: "1", Has: true}, api.OK)
	y.c = ofFaults(1)
	wantLight(t, "of four, by the last three of seven", y, client.Light{}, api.ErrSig)
}

// 12.4: by another book nobody signed anything.
func TestVerifyByAnotherBook(t *testing.T) {
	b := authn.NewBook()
	x := rightly(t, ofFaults(1), b, 4, letters(), "a")
	x.b = authn.NewBook()
	if l, e := x.verify(t, b); l != (client.Light{}) || e != api.ErrSig {
		t.Errorf("by another book Verify = %+v, %d", l, e)
	}
}

// 12.4: a proof of another state, or one state's root with another one's checkpoints, shows nothing.
func TestVerifyOfAnotherState(t *testing.T) {
	for name, b := range bothBooks(t) {
		for _, key := range []string{"a", "b", "c", "d"} {
			for _, other := range [][]api.Record{nil, letters()[:1], {{Key: "a", Value: "1"}, {Key: "c", Value: "4"}}, {{Key: "a", Value: "1"}, {Key: "c", Value: "3"}, {Key: "e", Value: "5"}}} {
				x := rightly(t, ofFaults(1), b, 4, letters(), key)
				x.body.Text = proofOf(t, b, other, key)
				wantLight(t, name+": another state's proof", x, client.Light{}, api.ErrProof)
				y := rightly(t, ofFaults(1), b, 4, letters(), key)
				y.body.Digest = rootOf(t, b, other)
				wantLight(t, name+": another state's root", y, client.Light{}, api.ErrSig)
			}
		}
	}
}
