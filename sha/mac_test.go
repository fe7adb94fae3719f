package sha_test

import (
	"crypto/hmac"
	"crypto/sha256"
	"strings"
	"testing"

	"gavel/sha"
)

// knownMac is the HMAC of a text as the library has it.
func knownMac(key, s string) string {
	m := hmac.New(sha256.New, []byte(key))
	m.Write([]byte(s))
	return string(m.Sum(nil))
}

// 2.2: the cases that RFC 4231 gives, and two that everybody knows.
func TestMacExamples(t *testing.T) {
	long := strings.Repeat("\xaa", 131)
	rows := []struct{ key, text, want string }{
		{strings.Repeat("\x0b", 20), "Hi There", "b0344c61d8db38535ca8afceaf0bf12b881dc200c9833da726e9376c2e32cff7"},
		{"Jefe", "what do ya want for nothing?", "5bdcc146bf60754e6a042426089575c75a003f089d2739839dec58b964ec3843"},
		{strings.Repeat("\xaa", 20), strings.Repeat("\xdd", 50), "773ea91e36800e46854db8ebd09181a72959098b3ef8c122d9635514ced565fe"},
		{long, "Test Using Larger Than Block-Size Key - Hash Key First", "60e431591ee0b67f0d8a26aacbf5b77f8e0bc6213728c5140546040f0ee37f54"},
		{long, "This is a test using a larger than block-size key and a larger than block-size data. The key needs to be hashed before being used by the HMAC algorithm.", "9b09ffa71b942fcb27635fbcd5b0e944bfdc63644f0713938a7f51535c3a35e2"},
		{"", "", "b613679a0814d9ec772f95d778c35fc5ff1697c493715653c6c712144292c5ad"},
		{"key", "The quick brown fox jumps over the lazy dog", "f7bc83f430538424b13298e6aa6fb143ef4d59a14946175997479dbc2d1a3cd8"},
	}
	for _, r := range rows {
		if s := sha.Mac(r.key, r.text); s != bytesOf(t, r.want) {
			t.Errorf("Mac(%.20q, %.20q) = %x", r.key, r.text, s)
		}
	}
}

// 2.2
func TestMacAtEdges(t *testing.T) {
	for _, k := range append(edges, 32, 33, 62, 66, 1<<20) {
		for _, n := range edges {
			key, text := some(k), some(n)
			if s := sha.Mac(key, text); s != knownMac(key, text) {
				t.Errorf("key of %d bytes, text of %d: %x", k, n, s)
			}
		}
	}
	if text := some(1 << 20); sha.Mac("key", text) != knownMac("key", text) {
		t.Error("a text of 2^20 bytes")
	}
}

// 2.2: key and text are two things: what of one stands in the other makes another HMAC.
func TestMacPartsKeyAndText(t *testing.T) {
	seen := map[string]string{}
	for _, p := range [][2]string{{"ab", "c"}, {"a", "bc"}, {"", "abc"}, {"abc", ""}, {"c", "ab"}, {"bc", "a"}} {
		s := sha.Mac(p[0], p[1])
		if at, ok := seen[s]; ok {
			t.Errorf("%q and %q have one HMAC", at, p)
		}
		seen[s] = p[0] + "," + p[1]
	}
}

// 2.4: a key of more than 64 bytes stands for its sum, one of 64 for itself.
func TestMacOfLongKeys(t *testing.T) {
	for _, n := range []int{65, 66, 96, 127, 128, 129, 1000, 1 << 16} {
		for _, text := range []string{"", "text", some(64), some(500)} {
			if sha.Mac(some(n), text) != sha.Mac(sha.Sum(some(n)), text) {
				t.Errorf("a key of %d bytes does not stand for its sum", n)
			}
		}
	}
	for _, n := range []int{0, 1, 31, 32, 33, 63, 64} {
		if sha.Mac(some(n), "text") == sha.Mac(sha.Sum(some(n)), "text") {
			t.Errorf("a key of %d bytes stands for its sum", n)
		}
	}
}

// 2.4: bytes 0 behind a key change nothing up to 64 bytes; a 65th byte does, and so does a 0 ahead.
func TestMacOfFilledUpKeys(t *testing.T) {
	for _, n := range []int{0, 1, 20, 32, 55, 56, 62, 63, 64} {
		key := some(n)
		want := sha.Mac(key, "text")
		for len(key) < 64 {
			key += "\x00"
			if sha.Mac(key, "text") != want {
				t.Errorf("a key of %d bytes, filled up to %d", n, len(key))
			}
		}
		if sha.Mac(key+"\x00", "text") == want {
			t.Errorf("a key of %d bytes, filled up to 65", n)
		}
		if n > 0 && sha.Mac("\x00"+some(n), "text") == want {
			t.Errorf("a key of %d bytes with a 0 ahead", n)
		}
		if n < 64 && sha.Mac(some(n)+"\x01", "text") == want {
			t.Errorf("a key of %d bytes with a 1 behind", n)
		}
	}
}
