package sha_test

import (
	"crypto/sha256"
	"encoding/hex"
	"strings"
	"testing"

	"gavel/sha"
)

// edges are sizes at which a block, or the place of the size in it, begins or ends.
var edges = []int{0, 1, 3, 54, 55, 56, 57, 63, 64, 65, 118, 119, 120, 121, 127, 128, 129, 183, 184, 191, 192, 193, 1000}

// some is a text of n bytes, in which all 256 bytes come and which no block repeats.
func some(n int) string {
	out := make([]byte, n)
	for i := range n {
		out[i] = byte(i*167 + i/256*31 + 200)
	}
	return string(out)
}

// known is the sum of a text as the library has it.
func known(s string) string {
	sum := sha256.Sum256([]byte(s))
	return string(sum[:])
}

func bytesOf(t *testing.T, digits string) string {
	b, err := hex.DecodeString(strings.ReplaceAll(digits, " ", ""))
	if err != nil {
		t.Fatal(err)
	}
	return string(b)
}

// 2.1
func TestSumExamples(t *testing.T) {
	rows := []struct{ text, want string }{
		{"abc", "ba7816bf 8f01cfea 414140de 5dae2223 b00361a3 96177a9c b410ff61 f20015ad"},
		{"", "e3b0c442 98fc1c14 9afbf4c8 996fb924 27ae41e4 649b934c a495991b 7852b855"},
		{"abcdbcdecdefdefgefghfghighijhijkijkljklmklmnlmnomnopnopq", "248d6a61 d20638b8 e5c02693 0c3e6039 a33ce459 64ff2167 f6ecedd4 19db06c1"},
		{"abcdefghbcdefghicdefghijdefghijkefghijklfghijklmghijklmnhijklmnoijklmnopjklmnopqklmnopqrlmnopqrsmnopqrstnopqrstu", "cf5b16a7 78af8380 036ce59e 7b049237 0b249b11 e8f07a51 afac4503 7afee9d1"},
		{strings.Repeat("a", 1000000), "cdc76e5c 9914fb92 81a1c7e2 84d73e67 f1809a48 a497200e 046d39cc c7112cd0"},
	}
	for _, r := range rows {
		if s := sha.Sum(r.text); s != bytesOf(t, r.want) {
			t.Errorf("Sum(%.20q) = %x", r.text, s)
		}
	}
}

// 2.1
func TestSumOfEachSize(t *testing.T) {
	for n := range 400 {
		for _, s := range []string{some(n), strings.Repeat("\x00", n), strings.Repeat("\x80", n), strings.Repeat("\xff", n)} {
			if got := sha.Sum(s); got != known(s) {
				t.Errorf("Sum of %d bytes (%.4q ..) = %x", n, s, got)
			}
		}
	}
}

// 2.1
func TestSumOfLongTexts(t *testing.T) {
	for _, n := range []int{1 << 13, 1<<16 - 9, 1 << 16, 1<<20 - 1, 1 << 20, 1<<20 + 1, 1 << 21} {
		if s := some(n); sha.Sum(s) != known(s) {
			t.Errorf("Sum of %d bytes = %x", n, sha.Sum(s))
		}
	}
}

// 2.1: the number of bits has eight bytes, not four.
func TestSumBeyondFourBytesOfBits(t *testing.T) {
	piece := some(1 << 20)
	h, want := sha.New(), sha256.New()
	for range 1<<9 + 1 {
		h.Write(piece)
		want.Write([]byte(piece))
	}
	if s := h.Sum(); s != string(want.Sum(nil)) {
		t.Errorf("of 2^29 + 2^20 bytes: %x", s)
	}
}

// 2.1: bytes that are no UTF-8, and what looks like the end of a text, are bytes like all others.
func TestSumTakesBytesAsTheyAre(t *testing.T) {
	for _, s := range []string{"\xff\xfe", "\xed\xa0\x80", "é", "abc\x00", "abc\x80", "\x80", "\x80" + strings.Repeat("\x00", 63)} {
		if got := sha.Sum(s); got != known(s) {
			t.Errorf("Sum(%q) = %x", s, got)
		}
	}
}
