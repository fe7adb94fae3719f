package authn_test

import (
	"reflect"
	"strings"
	"testing"

	"gavel/api"
	"gavel/authn"
	"gavel/wire"
)

var prepare = api.Body{Kind: api.KindPrepare, View: 1, Seq: 300, Digest: "d"}

// bothBooks are a book of each kind: four have secrets in the second.
func bothBooks(t *testing.T) map[string]*authn.Book {
	t.Helper()
	return map[string]*authn.Book{"numbers": authn.NewBook(), "secrets": keyed(t, "a", "b", "c", "d")}
}

func seal(t *testing.T, b *authn.Book, who int, x api.Body) api.Signed {
	t.Helper()
	m, e := b.Seal(who, x)
	if e != api.OK {
		t.Fatalf("Seal(%d, %v): %d", who, x, e)
	}
	return m
}

// wantOpen: what Open answers, and that nothing stands beside an error.
func wantOpen(t *testing.T, what string, b *authn.Book, m api.Signed, want api.Body, why api.Errno) {
	t.Helper()
	if x, e := b.Open(m); !reflect.DeepEqual(x, want) || e != why {
		t.Errorf("%s: Open = %v, %d; want %d", what, x, e, why)
	}
}

// 3.5
func TestSealAndOpen(t *testing.T) {
	inner := api.Signed{From: 7, Body: "b", Sig: "s"}
	bodies := []api.Body{
		prepare,
		{Kind: api.KindStatus},
		{Kind: api.KindRequest, Client: 15, Stamp: 1 << 40, Text: "op\x00\xff"},
		{Kind: api.KindKept, View: 2, Seq: 5, Digest: strings.Repeat("d", 32), Text: strings.Repeat("t", 1<<19), List: []api.Signed{inner, {}, inner}},
	}
	for name, b := range bothBooks(t) {
		for _, x := range bodies {
			for who := range 4 {
				m := seal(t, b, who, x)
				s, _ := wire.Bytes(x)
				if m != (api.Signed{From: who, Body: s, Sig: sign(t, b, who, s)}) || !b.Check(who, s, m.Sig) {
					t.Errorf("%s: sealed by %d: %d, %x, %x", name, who, m.From, m.Body, m.Sig)
				}
				wantOpen(t, name, b, m, x, api.OK)
				wantOpen(t, name+" again", b, m, x, api.OK)
				if again := seal(t, b, who, x); again != m {
					t.Errorf("%s: sealed again: %v", name, again)
				}
			}
		}
	}
}

// 3.5: the chapter's example.
func TestSealExample(t *testing.T) {
	b := authn.NewBook()
	m := seal(t, b, 2, api.Body{Kind: api.KindPrepare, Seq: 300, Digest: "d"})
	if m != (api.Signed{From: 2, Body: "\x03\x00\xac\x02\x00\x00\x01d\x00\x00", Sig: "s" + number(1)}) {
		t.Errorf("%v", m)
	}
	m.From = 3
	wantOpen(t, "from 3", b, m, api.Body{}, api.ErrSig)
}

// 3.5: the body's error first, then the signer's.
func TestSealRefuses(t *testing.T) {
	noKind, noField := api.Body{Kind: 14}, api.Body{Kind: api.KindPrepare}
	tooLong := api.Body{Kind: api.KindState, Seq: 4, Digest: "d", Text: strings.Repeat("t", 1<<20), List: make([]api.Signed, 1)}
	b, k := authn.NewBook(), keyed(t, "a", "b")
	rows := []struct {
		book *authn.Book
		who  int
		x    api.Body
		want api.Errno
	}{
		{b, 0, noKind, api.ErrKind}, {b, 0, noField, api.ErrField}, {b, 0, tooLong, api.ErrLong}, {b, 0, api.Body{}, api.ErrKind},
		{b, -1, noKind, api.ErrKind}, {b, 256, noField, api.ErrField}, {b, -1, tooLong, api.ErrLong},
		{b, -1, prepare, api.ErrArg}, {b, 256, prepare, api.ErrArg},
		{k, 0, noKind, api.ErrKind}, {k, 0, noField, api.ErrField}, {k, 0, tooLong, api.ErrLong},
		{k, 2, noKind, api.ErrKind}, {k, 256, noField, api.ErrField},
		{k, 2, prepare, api.ErrNone}, {k, 255, prepare, api.ErrNone}, {k, -1, prepare, api.ErrArg}, {k, 256, prepare, api.ErrArg},
	}
	for i, r := range rows {
		if m, e := r.book.Seal(r.who, r.x); m != (api.Signed{}) || e != r.want {
			t.Errorf("row %d: Seal by %d = %.20v, %d; want %d", i, r.who, m, e, r.want)
		}
	}
	// R2: what was refused has taken no number.
	wantSign(t, b, 0, "x", "s"+number(1), api.OK)
	if m := seal(t, b, 255, prepare); m.From != 255 || m.Sig != "s"+number(2) {
		t.Errorf("by 255: %v", m)
	}
}

// 3.5
func TestOpenRefusesForgeries(t *testing.T) {
	for name, b := range bothBooks(t) {
		m := seal(t, b, 2, prepare)
		commit := prepare
		commit.Kind = api.KindCommit
		other := seal(t, b, 2, commit)
		third := seal(t, b, 3, prepare)
		forged := []api.Signed{
			{From: 3, Body: m.Body, Sig: m.Sig}, {From: 1, Body: m.Body, Sig: m.Sig}, {From: 4, Body: m.Body, Sig: m.Sig},
			{From: 258, Body: m.Body, Sig: m.Sig}, {From: -1, Body: m.Body, Sig: m.Sig}, {From: 256, Body: m.Body, Sig: m.Sig},
			{From: 2, Body: other.Body, Sig: m.Sig}, {From: 2, Body: "", Sig: m.Sig}, {From: 2, Body: m.Body + "\x00", Sig: m.Sig},
			{From: 2, Body: m.Body, Sig: other.Sig}, {From: 2, Body: m.Body, Sig: third.Sig}, {From: 2, Body: m.Body},
			{From: 2, Body: m.Body, Sig: m.Sig + "\x00"}, {From: 2, Body: m.Body, Sig: m.Sig[:len(m.Sig)-1]},
			{From: 2, Body: "no body", Sig: m.Sig}, {From: 0, Body: "no body"}, {},
			{From: 2, Body: strings.Repeat("\x80", 1<<20+1), Sig: m.Sig},
		}
		for _, f := range forged {
			wantOpen(t, name, b, f, api.Body{}, api.ErrSig)
		}
		wantOpen(t, name, b, m, prepare, api.OK)
		wantOpen(t, name, b, other, commit, api.OK)
		wantOpen(t, name, b, third, prepare, api.OK)
	}
}

// 3.5: what is signed rightly, but is no body, is refused as layer 1 does.
func TestOpenOfWhatIsNoBody(t *testing.T) {
	right, _ := wire.Bytes(prepare)
	rows := []struct {
		s    string
		want api.Errno
	}{
		{"", api.ErrShort}, {right[:len(right)-1], api.ErrShort}, {right + "\x00", api.ErrTail}, {"\x80\x00", api.ErrForm},
		{"\x0e\x00\x00\x00\x00\x00\x00\x00", api.ErrKind}, {"\x03\x00\x00\x00\x00\x00\x00\x00", api.ErrField},
		{"\x08\x00\x00\x00\x00\x00\x00\x41", api.ErrFull}, {strings.Repeat("\x80", 1<<20+1), api.ErrLong},
	}
	for name, b := range bothBooks(t) {
		for _, r := range rows {
			wantOpen(t, name+", ahead of its signature", b, api.Signed{From: 1, Body: r.s, Sig: "s" + number(1)}, api.Body{}, api.ErrSig)
		}
		for _, r := range rows {
			wantOpen(t, name, b, api.Signed{From: 1, Body: r.s, Sig: sign(t, b, 1, r.s)}, api.Body{}, r.want)
		}
	}
}

// R3: a body's list is not kept, and each answer has one of its own.
func TestOpenAnswersNewLists(t *testing.T) {
	for name, b := range bothBooks(t) {
		x := api.Body{Kind: api.KindBegin, View: 1, List: []api.Signed{{From: 1, Body: "one"}, {From: 2, Body: "two"}}}
		m := seal(t, b, 0, x)
		x.List[0].From = 9
		one, _ := b.Open(m)
		if len(one.List) != 2 || one.List[0].From != 1 {
			t.Fatalf("%s: the list was kept: %v", name, one)
		}
		one.List[1].Body = "three"
		if two, _ := b.Open(m); two.List[1].Body != "two" {
			t.Errorf("%s: the answers share a list", name)
		}
	}
}
