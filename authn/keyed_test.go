package authn_test

import (
	"crypto/hmac"
	"crypto/sha256"
	"strings"
	"testing"

	"gavel/api"
	"gavel/authn"
)

// mac is the HMAC of a text as the library has it.
func mac(key, s string) string {
	m := hmac.New(sha256.New, []byte(key))
	m.Write([]byte(s))
	return string(m.Sum(nil))
}

func sum(s string) string {
	x := sha256.Sum256([]byte(s))
	return string(x[:])
}

func keyed(t *testing.T, secrets ...string) *authn.Book {
	t.Helper()
	b, e := authn.NewKeyed(secrets)
	if b == nil || e != api.OK {
		t.Fatalf("NewKeyed of %d: %v, %d", len(secrets), b, e)
	}
	return b
}

// secretsOf are n secrets that differ.
func secretsOf(n int) []string {
	var out []string
	for i := range n {
		out = append(out, string([]byte{byte(i), byte(i >> 8), 'k'}))
	}
	return out
}

var texts = []string{"", "x", "abc", "\x00", "\xff\xfe", "é", strings.Repeat("t", 64), strings.Repeat("t", 1<<20+1)}

// 3.1
func TestKeyedDigest(t *testing.T) {
	b, other := keyed(t, "a", "b"), keyed(t)
	for range 2 {
		for _, s := range texts {
			if b.Digest(s) != sum(s) || other.Digest(s) != sum(s) {
				t.Errorf("Digest(%.20q) = %x, %x", s, b.Digest(s), other.Digest(s))
			}
		}
	}
}

// 3.2
func TestKeyedSign(t *testing.T) {
	secrets := []string{"a", "b", strings.Repeat("c", 64), "\x00", "a"}
	b := keyed(t, secrets...)
	for range 2 {
		for who, k := range secrets {
			for _, s := range texts {
				wantSign(t, b, who, s, mac(k, s), api.OK)
			}
		}
	}
}

// 3.2
func TestKeyedSignersAtTheEdges(t *testing.T) {
	for _, n := range []int{0, 1, 2, 100, 255, 256} {
		secrets := secretsOf(n)
		b := keyed(t, secrets...)
		for _, who := range outside {
			wantSign(t, b, who, "x", "", api.ErrArg)
			if b.Check(who, "x", "") || b.Check(who, "x", mac("", "x")) {
				t.Errorf("%d signed x", who)
			}
		}
		for _, who := range []int{0, 1, 2, 99, 100, 254, 255} {
			if who < n {
				wantSign(t, b, who, "x", mac(secrets[who], "x"), api.OK)
				continue
			}
			wantSign(t, b, who, "x", "", api.ErrNone)
			if b.Check(who, "x", "") || b.Check(who, "x", mac("", "x")) {
				t.Errorf("%d of %d signed x", who, n)
			}
		}
	}
}

// 3.2: of a book of secrets a signature is right, whoever made it, as often as it is asked for.
func TestKeyedCheck(t *testing.T) {
	b := keyed(t, "a", "b")
	rows := []struct {
		who       int
		text, sig string
		want      bool
	}{
		{0, "x", mac("a", "x"), true}, {1, "x", mac("b", "x"), true}, {1, "", mac("b", ""), true},
		{1, "x", mac("a", "x"), false}, {0, "x", mac("b", "x"), false}, {0, "y", mac("a", "x"), false},
		{0, "", mac("a", "x"), false}, {0, "x\x00", mac("a", "x"), false},
		{0, "x", "", false}, {0, "x", mac("a", "x")[:31], false}, {0, "x", mac("a", "x") + "\x00", false}, {0, "x", sum("x"), false},
		{0, "x", "s" + number(1), false}, {2, "x", mac("b", "x"), false}, {255, "x", mac("a", "x"), false},
	}
	for i, r := range rows {
		for range 2 {
			if got := b.Check(r.who, r.text, r.sig); got != r.want {
				t.Errorf("row %d: Check(%d, %q, %x) = %v", i, r.who, r.text, r.sig, got)
			}
		}
	}
	if other := keyed(t, "c", "b"); other.Check(0, "x", sign(t, b, 0, "x")) || !other.Check(1, "x", sign(t, b, 1, "x")) {
		t.Error("a signature hangs on something else than the secret")
	}
	for i := range 32 {
		sig := []byte(mac("a", "x"))
		sig[i] ^= 1
		if b.Check(0, "x", string(sig)) {
			t.Errorf("a signature with another byte %d", i)
		}
	}
}

// 3.3
func TestKeyedIssuesNothing(t *testing.T) {
	b := keyed(t, "a", "b")
	sig := sign(t, b, 0, "x")
	if !b.Check(0, "x", sig) {
		t.Error("not the signature")
	}
	for _, who := range append(outside, 0, 1, 2, 255) {
		if b.Issued(who, "x") || b.Issued(who, "") {
			t.Errorf("issued by %d", who)
		}
	}
}

// 3.4
func TestNewKeyed(t *testing.T) {
	long, longer := strings.Repeat("k", 64), strings.Repeat("k", 65)
	with := func(n, at int, s string) []string {
		l := secretsOf(n)
		l[at] = s
		return l
	}
	rows := []struct {
		name    string
		secrets []string
		want    api.Errno
	}{
		{"nil", nil, api.OK}, {"none", []string{}, api.OK}, {"one byte", []string{"k"}, api.OK}, {"one byte 0", []string{"\x00"}, api.OK},
		{"64 bytes", []string{long}, api.OK}, {"two alike", []string{"k", "k"}, api.OK},
		{"256", secretsOf(256), api.OK}, {"256, one long", with(256, 255, long), api.OK},
		{"257", secretsOf(257), api.ErrArg}, {"1000", secretsOf(1000), api.ErrArg}, {"257, one empty", with(257, 256, ""), api.ErrArg},
		{"empty", []string{""}, api.ErrArg}, {"65 bytes", []string{longer}, api.ErrArg}, {"2^20 bytes", []string{strings.Repeat("k", 1<<20)}, api.ErrArg},
		{"the first empty", with(3, 0, ""), api.ErrArg}, {"the last empty", with(3, 2, ""), api.ErrArg},
		{"the first too long", with(3, 0, longer), api.ErrArg}, {"the last too long", with(256, 255, longer), api.ErrArg},
		{"bytes, not runes", []string{strings.Repeat("é", 33)}, api.ErrArg}, {"32 runes", []string{strings.Repeat("é", 32)}, api.OK},
	}
	for _, r := range rows {
		b, e := authn.NewKeyed(r.secrets)
		if e != r.want || (b == nil) != (e != api.OK) {
			t.Errorf("%s: %v, %d; want %d", r.name, b != nil, e, r.want)
			continue
		}
		for who, k := range r.secrets {
			if e == api.OK {
				wantSign(t, b, who, "x", mac(k, "x"), api.OK)
			}
		}
	}
}

// R3: the list of secrets is neither changed nor kept.
func TestKeyedKeepsItsSecrets(t *testing.T) {
	whole := []string{"a", "b", "c"}
	b := keyed(t, whole[:2]...)
	whole[0], whole[1] = "y", "z"
	wantSign(t, b, 0, "x", mac("a", "x"), api.OK)
	wantSign(t, b, 1, "x", mac("b", "x"), api.OK)
	wantSign(t, b, 2, "x", "", api.ErrNone)
	if whole[2] != "c" {
		t.Error("what lies behind the list's end is changed")
	}
}
