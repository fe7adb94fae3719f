package wire_test

import (
	"math"
	"reflect"
	"strings"
	"testing"

	"gavel/api"
	"gavel/wire"
)

// kinds is the document's table: a letter is a field (View, Seq, Client, sTamp, Digest, teXt, List).
var kinds = []struct {
	kind      int
	may, must string
}{
	{api.KindRequest, "CTX", "T"},
	{api.KindPropose, "VSL", "S"},
	{api.KindPrepare, "VSD", "SD"},
	{api.KindCommit, "VSD", "SD"},
	{api.KindCheck, "SD", "SD"},
	{api.KindChange, "VSL", "V"},
	{api.KindBegin, "VL", "VL"},
	{api.KindStatus, "VSCT", ""},
	{api.KindState, "SDXL", "SDL"},
	{api.KindReply, "VCTX", "T"},
	{api.KindKept, "VSDXL", "SDL"},
	{api.KindAsk, "CX", ""},
	{api.KindProof, "SDXL", "SDL"},
}

// set lays something into a field that may stand in each kind that has it.
func set(b *api.Body, field rune) {
	switch field {
	case 'V':
		b.View = 1
	case 'S':
		b.Seq = 4
	case 'C':
		b.Client = 1
	case 'T':
		b.Stamp = 1
	case 'D':
		b.Digest = "d"
	case 'X':
		b.Text = "x"
	case 'L':
		b.List = []api.Signed{{From: 1, Body: "b", Sig: "s"}}
	}
}

func bodyOf(kind int, letters string) api.Body {
	b := api.Body{Kind: kind}
	for _, f := range letters {
		set(&b, f)
	}
	return b
}

func wantRight(t *testing.T, what string, b api.Body, want api.Errno) {
	t.Helper()
	if e := wire.Right(b); e != want {
		t.Errorf("%s: Right = %d, want %d", what, e, want)
	}
	if e := want; e != api.OK {
		if s, got := wire.Bytes(b); s != "" || got != e {
			t.Errorf("%s: Bytes = %d bytes, %d, want %d", what, len(s), got, e)
		}
	}
}

// 1.3
func TestKinds(t *testing.T) {
	for _, k := range []int{0, -1, 14, 255, math.MinInt, math.MaxInt} {
		wantRight(t, "no kind", api.Body{Kind: k}, api.ErrKind)
		wantRight(t, "no kind, and a field too great", api.Body{Kind: k, View: -1, Seq: math.MaxInt}, api.ErrKind)
	}
	for k := 1; k <= 13; k++ {
		if wire.Right(api.Body{Kind: k}) == api.ErrKind {
			t.Errorf("%d is no kind", k)
		}
	}
}

// 1.3
func TestFieldsOfKinds(t *testing.T) {
	for _, k := range kinds {
		wantRight(t, "all there may be", bodyOf(k.kind, k.may), api.OK)
		wantRight(t, "all there must be", bodyOf(k.kind, k.must), api.OK)
		for _, f := range "VSCTDXL" {
			more := bodyOf(k.kind, k.must+string(f))
			want := api.ErrField
			if strings.ContainsRune(k.may, f) {
				want = api.OK
			}
			wantRight(t, string(f)+" more", more, want)
			less := bodyOf(k.kind, strings.ReplaceAll(k.may, string(f), ""))
			want = api.OK
			if strings.ContainsRune(k.must, f) {
				want = api.ErrField
			}
			wantRight(t, string(f)+" less", less, want)
		}
	}
}

// 1.3
func TestGreatestFields(t *testing.T) {
	put := []struct {
		field rune
		most  int
		set   func(b *api.Body, n int)
	}{
		{'V', 1 << 20, func(b *api.Body, n int) { b.View = n }},
		{'S', 1 << 30, func(b *api.Body, n int) { b.Seq = n }},
		{'C', 15, func(b *api.Body, n int) { b.Client = n }},
		{'T', 1 << 40, func(b *api.Body, n int) { b.Stamp = n }},
		{'D', 32, func(b *api.Body, n int) { b.Digest = strings.Repeat("d", max(n, 0)) }},
		{'X', mib, func(b *api.Body, n int) { b.Text = strings.Repeat("x", max(n, 0)) }},
		{'L', 64, func(b *api.Body, n int) { b.List = make([]api.Signed, max(n, 0)) }},
	}
	text := map[int]int{api.KindRequest: 256, api.KindReply: 256, api.KindAsk: 64}
	for _, k := range kinds {
		for _, p := range put {
			if !strings.ContainsRune(k.may, p.field) {
				continue
			}
			most := p.most
			if n := text[k.kind]; p.field == 'X' && n > 0 {
				most = n
			}
			if p.field == 'L' && k.kind == api.KindPropose {
				most = 4
			}
			if p.field == 'C' && k.kind == api.KindStatus {
				most = 1
			}
			b := bodyOf(k.kind, k.may)
			p.set(&b, most)
			wantRight(t, string(p.field)+" at its most", b, api.OK)
			p.set(&b, most+1)
			wantRight(t, string(p.field)+" above its most", b, api.ErrField)
			if strings.ContainsRune("VSCT", p.field) {
				for _, n := range []int{-1, -4, most + 4, math.MinInt, math.MaxInt} {
					p.set(&b, n)
					wantRight(t, string(p.field)+" far off", b, api.ErrField)
				}
			}
		}
	}
}

// 1.3
func TestSeqOfCheckpoints(t *testing.T) {
	for _, k := range kinds {
		if !strings.ContainsRune(k.may, 'S') {
			continue
		}
		four := strings.ContainsRune("\x05\x06\x09\x0d", rune(k.kind))
		for seq := 1; seq <= 12; seq++ {
			b := bodyOf(k.kind, k.may)
			b.Seq = seq
			want := api.OK
			if four && seq%4 != 0 {
				want = api.ErrField
			}
			wantRight(t, "seq", b, want)
		}
	}
	wantRight(t, "a change of number 0", api.Body{Kind: api.KindChange, View: 1}, api.OK)
}

// 1.3: a body's messages may each be.
func TestMessagesOfABody(t *testing.T) {
	rows := []struct {
		m    api.Signed
		want api.Errno
	}{
		{api.Signed{}, api.OK},
		{api.Signed{From: 255, Body: strings.Repeat("b", mib), Sig: strings.Repeat("s", 32)}, api.OK},
		{api.Signed{From: -1}, api.ErrField}, {api.Signed{From: 256}, api.ErrField},
		{api.Signed{Body: strings.Repeat("b", mib+1)}, api.ErrField},
		{api.Signed{Sig: strings.Repeat("s", 33)}, api.ErrField},
	}
	for _, r := range rows {
		b := bodyOf(api.KindKept, "SD")
		b.List = []api.Signed{{}, {}, r.m}
		wantRight(t, "the last of three", b, r.want)
		b.List = []api.Signed{r.m}
		wantRight(t, "the only one", b, r.want)
	}
}

// 1.4
func TestBodyLayout(t *testing.T) {
	rows := []struct {
		b    api.Body
		want string
	}{
		{api.Body{Kind: api.KindPrepare, Seq: 300, Digest: "d"}, "\x03\x00\xac\x02\x00\x00\x01d\x00\x00"},
		{api.Body{Kind: api.KindStatus}, "\x08\x00\x00\x00\x00\x00\x00\x00"},
		{api.Body{Kind: api.KindStatus, View: 1 << 20, Seq: 1 << 30, Client: 1, Stamp: 1 << 40}, "\x08\x80\x80\x40\x80\x80\x80\x80\x04\x01\x80\x80\x80\x80\x80\x20\x00\x00\x00"},
		{api.Body{Kind: api.KindRequest, Client: 15, Stamp: 9, Text: "op"}, "\x01\x00\x00\x0f\x09\x00\x02op\x00"},
		{api.Body{Kind: api.KindKept, View: 2, Seq: 5, Digest: "dg", Text: "abc", List: []api.Signed{{From: 200, Body: "B", Sig: "ss"}, {}}},
			"\x0b\x02\x05\x00\x00\x02dg\x03abc\x02\xc8\x01\x01B\x02ss\x00\x00\x00"},
	}
	for _, r := range rows {
		if s, e := wire.Bytes(r.b); s != r.want || e != api.OK {
			t.Errorf("Bytes(%v) = %q, %d", r.b, s, e)
		}
		if b, e := wire.Of(r.want); !reflect.DeepEqual(b, r.b) || e != api.OK {
			t.Errorf("Of(%q) = %v, %d", r.want, b, e)
		}
	}
}

// 1.4
func TestBytesTooLong(t *testing.T) {
	b := bodyOf(api.KindState, "SDL")
	bare, _ := wire.Bytes(b)
	b.Text = strings.Repeat("x", mib-len(bare)-2) // its length has two bytes more than 0 has
	s, e := wire.Bytes(b)
	if len(s) != mib || e != api.OK {
		t.Fatalf("at the most: %d bytes, %d", len(s), e)
	}
	if got, e := wire.Of(s); !reflect.DeepEqual(got, b) || e != api.OK {
		t.Fatalf("read at the most: %d", e)
	}
	b.Text += "x"
	if s, e := wire.Bytes(b); s != "" || e != api.ErrLong {
		t.Fatalf("above the most: %d bytes, %d", len(s), e)
	}
	b.Text = ""
	b.List = make([]api.Signed, 64)
	for i := range b.List {
		b.List[i].Body = strings.Repeat("x", 32*kib)
	}
	if s, e := wire.Bytes(b); s != "" || e != api.ErrLong {
		t.Fatalf("many messages: %d bytes, %d", len(s), e)
	}
	b.Seq = 5
	if _, e := wire.Bytes(b); e != api.ErrField {
		t.Fatalf("a field and a length: %d", e)
	}
}

// 1.4
func TestOfRefuses(t *testing.T) {
	head := "\x08\x00\x00\x00\x00\x00\x00"
	rows := []struct {
		name, s string
		want    api.Errno
	}{
		{"nothing", "", api.ErrShort},
		{"no list", head, api.ErrShort},
		{"a tail", head + "\x00\x00", api.ErrTail},
		{"no kind", "\x0e\x00\x00\x00\x00\x00\x00\x00", api.ErrKind},
		{"kind 0", "\x00\x00\x00\x00\x00\x00\x00\x00", api.ErrKind},
		{"no kind, a tail", "\x0e\x00\x00\x00\x00\x00\x00\x00\x00", api.ErrTail},
		{"a field", "\x08\x00\x00\x02\x00\x00\x00\x00", api.ErrField},
		{"a field, a tail", "\x08\x00\x00\x02\x00\x00\x00\x00\x00", api.ErrTail},
		{"a view too great", "\x08\x81\x80\x40\x00\x00\x00\x00\x00\x00", api.ErrField},
		{"a long form", "\x08\x80\x00\x00\x00\x00\x00\x00\x00", api.ErrForm},
		{"a long form of the kind", "\x88\x00", api.ErrForm},
		{"a number too great", "\x08\x00" + beyond, api.ErrForm},
		{"a digest of 33", "\x05\x00\x04\x00\x00\x21" + strings.Repeat("d", 33) + "\x00\x00", api.ErrField},
		{"a digest too long", "\x08\x00\x00\x00\x00\x81\x80\x40", api.ErrLong},
		{"a text too long", "\x08\x00\x00\x00\x00\x00\x81\x80\x40", api.ErrLong},
		{"a text short", "\x08\x00\x00\x00\x00\x00\x80\x80\x40", api.ErrShort},
		{"64 messages, none there", head + "\x40", api.ErrShort},
		{"65 messages", head + "\x41", api.ErrFull},
		{"2^53 messages", head + greatest, api.ErrFull},
		{"a proposal of five", "\x02\x00\x01\x00\x00\x00\x00\x05" + strings.Repeat("\x00\x00\x00", 5), api.ErrField},
		{"a message from 256", "\x07\x01\x00\x00\x00\x00\x00\x01\x80\x02\x00\x00", api.ErrField},
		{"a message's long form", "\x07\x01\x00\x00\x00\x00\x00\x01\x80\x00\x00\x00", api.ErrForm},
		{"a message's body too long", "\x07\x01\x00\x00\x00\x00\x00\x01\x00\x81\x80\x40", api.ErrLong},
		{"a signature of 33", "\x07\x01\x00\x00\x00\x00\x00\x01\x00\x00\x21" + strings.Repeat("s", 33), api.ErrField},
		{"too long, and short", strings.Repeat("\x80", mib+1), api.ErrLong},
		{"just not too long", strings.Repeat("\x80", mib), api.ErrForm},
	}
	for _, r := range rows {
		if b, e := wire.Of(r.s); !reflect.DeepEqual(b, api.Body{}) || e != r.want {
			t.Errorf("%s: %v, %d; want %d", r.name, b, e, r.want)
		}
	}
}
