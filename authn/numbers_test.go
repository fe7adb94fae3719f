package authn_test

import (
	"math"
	"strings"
	"testing"

	"gavel/api"
	"gavel/authn"
)

// outside are numbers that are no signer's.
var outside = []int{-1, 256, -256, 257, 1 << 16, 1 << 32, 1<<32 + 2, math.MinInt, math.MaxInt}

// number is n as a book that numbers lays it, written out byte by byte.
func number(n int) string {
	return "\x00\x00\x00\x00\x00" + string([]byte{byte(n >> 16), byte(n >> 8), byte(n)})
}

func sign(t *testing.T, b *authn.Book, who int, s string) string {
	t.Helper()
	sig, e := b.Sign(who, s)
	if e != api.OK {
		t.Fatalf("Sign(%d, %.20q): %d", who, s, e)
	}
	return sig
}

// wantSign: what Sign answers, and that nothing stands beside an error.
func wantSign(t *testing.T, b *authn.Book, who int, s, want string, why api.Errno) {
	t.Helper()
	if sig, e := b.Sign(who, s); sig != want || e != why {
		t.Errorf("Sign(%d, %.20q) = %q, %d; want %q, %d", who, s, sig, e, want, why)
	}
}

// 3.1: the chapter's example, and texts that come again, in another order.
func TestNumbersOfTexts(t *testing.T) {
	b := authn.NewBook()
	rows := []struct {
		text string
		want int
	}{
		{"x", 1}, {"x", 1}, {"y", 2}, {"", 3}, {"x", 1}, {"X", 4}, {"x\x00", 5}, {"\x00x", 6}, {"\xff\xfe", 7}, {"\xff", 8},
		{strings.Repeat("x", 1<<21), 9}, {strings.Repeat("x", 1<<21+1), 10}, {"", 3}, {"y", 2}, {"\xff", 8}, {"é", 11},
		{"\x00\x00\x00\x00\x00\x00\x00\x01", 12}, {strings.Repeat("x", 1<<21), 9},
	}
	for _, r := range rows {
		if d := b.Digest(r.text); d != number(r.want) {
			t.Errorf("Digest(%.20q) = %x, want %d", r.text, d, r.want)
		}
	}
}

// 3.1, 3.2: numbers of more than one and two bytes have their highest byte first.
func TestNumbersOfMany(t *testing.T) {
	b := authn.NewBook()
	text := func(n int) string { return strings.Repeat("t", n%7) + number(n) }
	const many = 70000
	for n := 1; n <= many; n++ {
		if d := b.Digest(text(n)); d != number(n) {
			t.Fatalf("digest %d: %x", n, d)
		}
		if sig := sign(t, b, n%256, text(n)); sig != "s"+number(n) {
			t.Fatalf("signature %d: %x", n, sig)
		}
	}
	for n := many; n > 0; n -= 13 {
		if b.Digest(text(n)) != number(n) || sign(t, b, n%256, text(n)) != "s"+number(n) {
			t.Fatalf("%d asked again: %x", n, b.Digest(text(n)))
		}
	}
	if number(65793) != "\x00\x00\x00\x00\x00\x01\x01\x01" {
		t.Fatal("the test's own numbers")
	}
}

// 3.2: pairs are numbered in the order in which they come first, whoever the signer is.
func TestNumbersOfPairs(t *testing.T) {
	b := authn.NewBook()
	rows := []struct {
		who  int
		text string
		want int
	}{
		{2, "x", 1}, {2, "x", 1}, {3, "x", 2}, {2, "y", 3}, {0, "", 4}, {255, "", 5}, {2, "x", 1}, {0, "x", 6},
		{255, "x", 7}, {0, "", 4}, {3, "x", 2}, {2, "\x00", 8}, {2, "", 9}, {25, "5x", 10}, {255, "x", 7}, {2, "55x", 11},
	}
	for _, r := range rows {
		wantSign(t, b, r.who, r.text, "s"+number(r.want), api.OK)
	}
}

// 3.1, 3.2: digests and signatures are numbered apart, and so are two books.
func TestNumbersApart(t *testing.T) {
	a, b := authn.NewBook(), authn.NewBook()
	a.Digest("x")
	a.Digest("y")
	wantSign(t, a, 1, "z", "s"+number(1), api.OK)
	wantSign(t, a, 1, "y", "s"+number(2), api.OK)
	wantSign(t, a, 2, "x", "s"+number(3), api.OK)
	for i, s := range []string{"w", "z", "x"} {
		if d := a.Digest(s); d != number([]int{3, 4, 1}[i]) {
			t.Errorf("signatures move the digest of %s: %x", s, d)
		}
	}
	if d := b.Digest("z"); d != number(1) {
		t.Errorf("another book's first digest: %x", d)
	}
	wantSign(t, b, 2, "x", "s"+number(1), api.OK)
	if b.Issued(1, "z") || b.Check(1, "z", "s"+number(1)) || b.Check(2, "x", "s"+number(3)) {
		t.Error("a book takes another one's signatures")
	}
}

// 3.2
func TestNumbersSignersAtTheEdges(t *testing.T) {
	b := authn.NewBook()
	for _, who := range outside {
		wantSign(t, b, who, "x", "", api.ErrArg)
		if b.Issued(who, "x") || b.Check(who, "x", "s"+number(1)) || b.Check(who, "x", "") {
			t.Errorf("%d signed x", who)
		}
	}
	// What was refused has taken no number.
	wantSign(t, b, 0, "x", "s"+number(1), api.OK)
	wantSign(t, b, 255, "x", "s"+number(2), api.OK)
	for _, who := range outside {
		if b.Issued(who, "x") || b.Check(who, "x", "s"+number(1)) || b.Check(who, "x", "s"+number(2)) {
			t.Errorf("%d signed x", who)
		}
	}
	if !b.Check(0, "x", "s"+number(1)) || !b.Check(255, "x", "s"+number(2)) {
		t.Error("0 or 255 did not sign x")
	}
}

// 3.2
func TestNumbersCheck(t *testing.T) {
	b := authn.NewBook()
	sig := sign(t, b, 2, "x")
	other := sign(t, b, 3, "x")
	third := sign(t, b, 2, "y")
	rows := []struct {
		who       int
		text, sig string
		want      bool
	}{
		{2, "x", sig, true}, {3, "x", other, true}, {2, "y", third, true},
		{2, "x", other, false}, {3, "x", sig, false}, {2, "y", sig, false}, {2, "x", third, false}, {3, "y", third, false},
		{4, "x", sig, false}, {2, "z", sig, false}, {2, "", sig, false}, {2, "x\x00", sig, false},
		{2, "x", "", false}, {2, "x", sig[:8], false}, {2, "x", sig + "\x00", false}, {2, "x", sig[1:], false},
		{2, "x", "S" + sig[1:], false}, {2, "x", "s" + number(0), false}, {2, "x", "s\x01" + sig[2:], false},
		{4, "z", "s" + number(4), false}, {4, "z", "s" + number(0), false}, {4, "z", "", false},
	}
	for i, r := range rows {
		for range 2 { // a check leaves nothing behind
			if got := b.Check(r.who, r.text, r.sig); got != r.want {
				t.Errorf("row %d: Check(%d, %q, %q) = %v", i, r.who, r.text, r.sig, got)
			}
		}
	}
	wantSign(t, b, 4, "z", "s"+number(4), api.OK)
	if !b.Check(4, "z", "s"+number(4)) {
		t.Error("what is signed later is not taken")
	}
}

// 3.3
func TestNumbersIssued(t *testing.T) {
	b := authn.NewBook()
	b.Digest("x")
	if b.Issued(2, "x") || b.Issued(0, "") {
		t.Error("issued by an empty book")
	}
	sign(t, b, 2, "x")
	sign(t, b, 255, "")
	rows := []struct {
		who  int
		text string
		want bool
	}{
		{2, "x", true}, {255, "", true}, {3, "x", false}, {0, "x", false}, {2, "", false}, {2, "y", false}, {255, "x", false}, {0, "", false},
	}
	for i, r := range rows {
		for range 2 { // nor does a question
			if got := b.Issued(r.who, r.text); got != r.want {
				t.Errorf("row %d: Issued(%d, %q) = %v", i, r.who, r.text, got)
			}
		}
	}
	wantSign(t, b, 3, "x", "s"+number(3), api.OK)
	if !b.Issued(3, "x") {
		t.Error("what is signed later is not issued")
	}
}

// 3.1, R3: a text that is a piece of a greater one is numbered for itself.
func TestNumbersOfPieces(t *testing.T) {
	b := authn.NewBook()
	whole := strings.Repeat("abcd", 1000)
	for i := range 4 {
		b.Digest(whole[i : i+4])
	}
	for i := range 40 {
		if d := b.Digest(whole[i : i+4]); d != number(i%4+1) {
			t.Errorf("piece at %d: %x", i, d)
		}
	}
}
