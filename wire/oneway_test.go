package wire_test

import (
	"reflect"
	"strings"
	"testing"
	"unsafe"

	"gavel/api"
	"gavel/wire"
)

// face is a pair of calls by their bytes: again reads bytes and lays what was read.
type face struct {
	name  string
	again func(s string) (string, api.Errno)
	laid  []string
}

// through makes the two calls of a face one, and asks that nothing is told beside an error.
func through[T any](t *testing.T, of func(string) (T, api.Errno), put func(T) (string, api.Errno)) func(string) (string, api.Errno) {
	return func(s string) (string, api.Errno) {
		x, e := of(s)
		if e != api.OK {
			if !reflect.ValueOf(&x).Elem().IsZero() {
				t.Errorf("%.40q: %v beside the error %d", s, x, e)
			}
			return "", e
		}
		back, e := put(x)
		if e != api.OK {
			t.Errorf("%.40q was read as %v, which may not be: %d", s, x, e)
		}
		return back, api.OK
	}
}

// lay lays things, and asks that each is read as it was.
func lay[T any](t *testing.T, of func(string) (T, api.Errno), put func(T) (string, api.Errno), l ...T) []string {
	var out []string
	for _, x := range l {
		s, e := put(x)
		if e != api.OK {
			t.Errorf("%v may not be: %d", x, e)
		}
		if back, e := of(s); !reflect.DeepEqual(back, x) || e != api.OK {
			t.Errorf("%v was read as %v, %d", x, back, e)
		}
		out = append(out, s)
	}
	return out
}

func bodies() []api.Body {
	var l []api.Body
	for _, k := range kinds {
		l = append(l, bodyOf(k.kind, k.may))
		if k.may != k.must {
			l = append(l, bodyOf(k.kind, k.must))
		}
	}
	big := bodyOf(api.KindKept, "VSDXL")
	big.View, big.Seq, big.Text, big.Digest = 1<<20, 1<<30, strings.Repeat("x", 200), strings.Repeat("d", 32)
	big.List = append(big.List, api.Signed{From: 255, Body: strings.Repeat("b", 130), Sig: strings.Repeat("s", 32)}, api.Signed{})
	return append(l, big)
}

func faces(t *testing.T) []face {
	a, b := api.Signed{From: 3, Body: "body", Sig: "sg"}, api.Signed{From: 255, Body: strings.Repeat("b", 150)}
	path := api.Path{Index: 4095, Key: "key", Value: "value", Sides: []string{"one", "", "two"}}
	int1 := func(s string) (int, api.Errno) { n, _, e := wire.GetInt(s, 0); return n, e }
	text1 := func(s string) (string, api.Errno) { x, _, e := wire.GetText(s, 0); return x, e }
	return []face{
		{"number", nil, lay(t, int1, wire.PutInt, 0, 5, 127, 128, 300, 1<<40, 1<<53-1, 1<<53)},
		{"text", nil, lay(t, text1, wire.PutText, "", "abc", strings.Repeat("x", 300))},
		{"body", through(t, wire.Of, wire.Bytes), lay(t, wire.Of, wire.Bytes, bodies()...)},
		{"message", through(t, wire.OfSigned, wire.PutSigned), lay(t, wire.OfSigned, wire.PutSigned, api.Signed{}, a, b)},
		{"batch", through(t, wire.OfBatch, wire.Batch), lay(t, wire.OfBatch, wire.Batch, nil, []api.Signed{a}, []api.Signed{b, a, a, {}})},
		{"records", through(t, wire.OfRecords, wire.PutRecords), lay(t, wire.OfRecords, wire.PutRecords, nil, numbered(1, 0), numbered(5, 140))},
		{"proof", through(t, wire.OfProof, wire.PutProof), lay(t, wire.OfProof, wire.PutProof, api.Proof{}, api.Proof{Count: 4096, Paths: []api.Path{path, {}}})},
		{"request", through(t, wire.OfOp, wire.PutOp), lay(t, wire.OfOp, wire.PutOp, api.Op{}, api.Op{Kind: 8, Good: 1, Amount: 1 << 20, Side: 1, Id: 300, Price: 1.5})},
	}
}

// 1.5: a beginning is ErrShort, with more behind it is ErrTail.
func TestBeginningsAndTails(t *testing.T) {
	for _, f := range faces(t) {
		again := f.again
		if again == nil { // a number or a text by itself: more may stand behind it
			again = func(s string) (string, api.Errno) {
				if f.name == "number" {
					_, _, e := wire.GetInt(s, 0)
					return "", e
				}
				_, _, e := wire.GetText(s, 0)
				return "", e
			}
		}
		for _, s := range f.laid {
			for n := range len(s) {
				if _, e := again(s[:n]); e != api.ErrShort {
					t.Errorf("%s: %d bytes of %.40q: %d", f.name, n, s, e)
				}
			}
			want := api.ErrTail
			if f.again == nil {
				want = api.OK
			}
			for _, tail := range []string{"\x00", "x", "\xff", s + "\x80"} {
				if _, e := again(s + tail); e != want {
					t.Errorf("%s: %.40q and %.40q: %d", f.name, s, tail, e)
				}
			}
		}
	}
}

// 1.5: whatever bytes are read are those that are laid again.
func TestReadIsLaidAgain(t *testing.T) {
	for _, f := range faces(t) {
		if f.again == nil {
			continue
		}
		for _, s := range f.laid {
			for i := range len(s) {
				for c := range 256 {
					other := s[:i] + string([]byte{byte(c)}) + s[i+1:]
					if back, e := f.again(other); e == api.OK && back != other {
						t.Fatalf("%s: %.60q is laid again as %.60q", f.name, other, back)
					}
				}
			}
		}
	}
}

// R1, 1.5: bytes of no kind are read to an end, too.
func TestAnyBytes(t *testing.T) {
	seed := uint64(1)
	next := func() int { // a fixed series, the same in each run
		seed = seed*6364136223846793005 + 1442695040888963407
		return int(seed >> 40)
	}
	all := faces(t)
	for range 20000 {
		s := make([]byte, next()%40)
		for i := range s {
			s[i] = byte(next() % []int{4, 16, 256}[next()%3])
		}
		for _, f := range all {
			if f.again == nil {
				continue
			}
			if back, e := f.again(string(s)); e == api.OK && back != string(s) {
				t.Fatalf("%s: %q is laid again as %q", f.name, s, back)
			}
		}
		if n, to, e := wire.GetInt(string(s), 0); e == api.OK {
			if back, _ := wire.PutInt(n); back != string(s[:to]) {
				t.Fatalf("number: %q is laid again as %q", s[:to], back)
			}
		}
		if x, to, e := wire.GetText(string(s), 0); e == api.OK {
			if back, _ := wire.PutText(x); back != string(s[:to]) {
				t.Fatalf("text: %q is laid again as %q", s[:to], back)
			}
		}
	}
}

// 1.5: unlike bodies have unlike bytes.
func TestUnlikeBodies(t *testing.T) {
	l := bodies()
	for _, k := range kinds {
		for _, f := range k.may {
			b := bodyOf(k.kind, k.may)
			switch f {
			case 'V':
				b.View = 2
			case 'S':
				b.Seq = 8
			case 'C':
				b.Client = 0
			case 'T':
				b.Stamp = 2
			case 'D':
				b.Digest = "dx"
			case 'X':
				b.Text = "xx"
			case 'L':
				b.List = append(b.List, api.Signed{})
			}
			l = append(l, b)
		}
	}
	seen := map[string]api.Body{}
	for _, b := range l {
		s, e := wire.Bytes(b)
		if e != api.OK {
			t.Fatalf("%v may not be: %d", b, e)
		}
		if a, ok := seen[s]; ok && !reflect.DeepEqual(a, b) {
			t.Errorf("%v and %v have the bytes %q", a, b, s)
		}
		seen[s] = b
	}
	if len(seen) < 50 {
		t.Errorf("only %d unlike bodies", len(seen))
	}
}

// R3: nil and the empty list are the same.
func TestEmptyLists(t *testing.T) {
	a, e := wire.Bytes(api.Body{Kind: api.KindStatus, List: []api.Signed{}})
	if b, _ := wire.Bytes(api.Body{Kind: api.KindStatus}); a != b || e != api.OK {
		t.Errorf("a body: %q, %q, %d", a, b, e)
	}
	if s, e := wire.PutRecords([]api.Record{}); s != "\x00" || e != api.OK {
		t.Errorf("records: %q, %d", s, e)
	}
	if s, e := wire.PutProof(api.Proof{Paths: []api.Path{}}); s != "\x00\x00" || e != api.OK {
		t.Errorf("a proof: %q, %d", s, e)
	}
	if e := wire.Right(api.Body{Kind: api.KindBegin, View: 1, List: []api.Signed{}}); e != api.ErrField {
		t.Errorf("a list that must be: %d", e)
	}
}

// R3: what is handed in stays as it is, also behind a list's end.
func TestArgumentsStay(t *testing.T) {
	room := []api.Signed{{From: 1}, {From: 2, Body: "kept"}}
	b := bodyOf(api.KindKept, "VSDX")
	b.List = room[:1]
	wire.Bytes(b)
	wire.Batch(room[:1])
	if want := []api.Signed{{From: 1}, {From: 2, Body: "kept"}}; !reflect.DeepEqual(room, want) {
		t.Errorf("messages: %v", room)
	}
	records := []api.Record{{Key: "a"}, {Key: "b"}, {Key: "0"}}
	wire.PutRecords(records[:2])
	if want := []api.Record{{Key: "a"}, {Key: "b"}, {Key: "0"}}; !reflect.DeepEqual(records, want) {
		t.Errorf("records: %v", records)
	}
}

// R3: no two lists of an answer share memory, nor two answers.
func TestListsAreNew(t *testing.T) {
	s, _ := wire.PutProof(api.Proof{Count: 2, Paths: []api.Path{{Sides: []string{"a"}}, {Sides: []string{"b"}}}})
	p, _ := wire.OfProof(s)
	first := append(p.Paths[0].Sides, "c", "d")
	first[0] = "z"
	if want := []string{"b"}; !reflect.DeepEqual(p.Paths[1].Sides, want) {
		t.Errorf("sides: %v", p.Paths[1].Sides)
	}
	body, _ := wire.Bytes(bodyOf(api.KindBegin, "VL"))
	x, _ := wire.Of(body)
	x.List[0].From = 9
	if y, _ := wire.Of(body); y.List[0].From != 1 {
		t.Errorf("a list was kept: %v", y.List)
	}
}

// R3: a text that is read is new memory.
func TestTextsAreNew(t *testing.T) {
	s, _ := wire.PutText("a text of some length")
	text, _, _ := wire.GetText(s, 0)
	if unsafe.StringData(text) == unsafe.StringData(s[1:]) {
		t.Error("the text lies within the bytes that it was read from")
	}
}
