package merkle_test

import (
	"reflect"
	"strings"
	"testing"

	"gavel/api"
	"gavel/authn"
	"gavel/merkle"
)

// books are one of each kind.
func books(t *testing.T) map[string]*authn.Book {
	t.Helper()
	b, e := authn.NewKeyed([]string{"a", "b"})
	if e != api.OK {
		t.Fatal(e)
	}
	return map[string]*authn.Book{"numbers": authn.NewBook(), "secrets": b}
}

// laid is a text behind its length, written out digit by digit.
func laid(s string) string {
	n := len(s)
	if n < 128 {
		return string([]byte{byte(n)}) + s
	}
	return string([]byte{byte(n%128) + 128, byte(n / 128)}) + s
}

func leaf(b *authn.Book, key, value string) string {
	return b.Digest("L" + laid(key) + laid(value))
}

func node(b *authn.Book, l, r string) string { return b.Digest("N" + laid(l) + laid(r)) }

func top(b *authn.Book, n int, over string) string {
	count := string([]byte{byte(n)})
	if n >= 128 {
		count = string([]byte{byte(n%128) + 128, byte(n / 128)})
	}
	return b.Digest("R" + count + laid(over))
}

// stand is what stands over leaves, found from below: each leaf is joined as often as its number ends in ones, and what is left is joined from the right.
func stand(b *authn.Book, leaves []string) string {
	var stack []string
	join := func() {
		n := len(stack)
		stack = append(stack[:n-2], node(b, stack[n-2], stack[n-1]))
	}
	for i, x := range leaves {
		stack = append(stack, x)
		for ; i%2 == 1; i /= 2 {
			join()
		}
	}
	for len(stack) > 1 {
		join()
	}
	return strings.Join(stack, "")
}

// rootBy is the root of records, by the words of the chapter.
func rootBy(b *authn.Book, l []api.Record) string {
	var leaves []string
	for _, x := range l {
		leaves = append(leaves, leaf(b, x.Key, x.Value))
	}
	return top(b, len(l), stand(b, leaves))
}

// keyOf is the key of the record i of those that recordsOf gives; between two of them there are others.
func keyOf(i int) string { return "k" + string([]byte{byte(i >> 8), byte(i)}) }

func recordsOf(n int) []api.Record {
	var l []api.Record
	for i := range n {
		l = append(l, api.Record{Key: keyOf(i), Value: "v" + string([]byte{byte(i)})})
	}
	return l
}

func root(t *testing.T, b *authn.Book, l []api.Record) string {
	t.Helper()
	r, e := merkle.Root(b, l)
	if e != api.OK {
		t.Fatalf("Root of %d records: %d", len(l), e)
	}
	return r
}

func prove(t *testing.T, b *authn.Book, l []api.Record, key string) api.Proof {
	t.Helper()
	p, e := merkle.Prove(b, l, key)
	if e != api.OK {
		t.Fatalf("Prove of %q among %d: %d", key, len(l), e)
	}
	return p
}

func wantProof(t *testing.T, what string, got, want api.Proof) {
	t.Helper()
	if !reflect.DeepEqual(got, want) {
		t.Errorf("%s: the proof is\n%v\nwant\n%v", what, got, want)
	}
}

func wantVerify(t *testing.T, what string, b *authn.Book, to, key string, p api.Proof, value string, has bool, why api.Errno) {
	t.Helper()
	v, h, e := merkle.Verify(b, to, key, p)
	if v != value || h != has || e != why {
		t.Errorf("%s: Verify of %q = %.20q, %v, %d; want %.20q, %v, %d", what, key, v, h, e, value, has, why)
	}
}

// numbered is the number of a text by a book that numbers.
func numbered(b *authn.Book, s string) int {
	n := 0
	for _, x := range []byte(b.Digest(s)) {
		n = n<<8 | int(x)
	}
	return n
}

// quiet runs calls that are refused, and tells whether a book that numbers has numbered something by them.
func quiet(t *testing.T, what string, f func(b *authn.Book)) {
	t.Helper()
	b := authn.NewBook()
	f(b)
	if numbered(b, "behind") != 1 {
		t.Errorf("%s: something was numbered", what)
	}
}
