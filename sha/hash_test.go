package sha_test

import (
	"testing"
	"unsafe"

	"gavel/sha"
)

// 2.3
func TestHashOfNothing(t *testing.T) {
	h := sha.New()
	if s := h.Sum(); s != known("") {
		t.Errorf("of nothing: %x", s)
	}
	h.Write("")
	if s := h.Sum(); s != known("") {
		t.Errorf("of the empty text: %x", s)
	}
}

// 2.3: wherever a text is cut, and whether its sum is asked at the cuts or not.
func TestHashInTwoParts(t *testing.T) {
	text := some(200)
	for cut := range len(text) + 1 {
		for _, asks := range []int{0, 1, 3} {
			h := sha.New()
			h.Write(text[:cut])
			for range asks {
				if s := h.Sum(); s != known(text[:cut]) {
					t.Errorf("the first %d bytes, asked %d times: %x", cut, asks, s)
				}
			}
			h.Write(text[cut:])
			if s := h.Sum(); s != known(text) {
				t.Errorf("cut at %d, asked %d times: %x", cut, asks, s)
			}
		}
	}
}

// 2.3
func TestHashByteByByte(t *testing.T) {
	text := some(300)
	h := sha.New()
	for i := range len(text) {
		h.Write(text[i : i+1])
		h.Write("")
		if s := h.Sum(); s != known(text[:i+1]) {
			t.Fatalf("the first %d bytes: %x", i+1, s)
		}
	}
}

// 2.3: parts of the sizes at which a block ends, each behind each.
func TestHashInPartsAtEdges(t *testing.T) {
	for _, a := range edges {
		for _, b := range edges {
			text := some(a + b + a)
			h := sha.New()
			h.Write(text[:a])
			h.Sum()
			h.Write(text[a : a+b])
			h.Write(text[a+b:])
			if s := h.Sum(); s != known(text) || h.Sum() != s {
				t.Errorf("parts of %d, %d and %d bytes: %x", a, b, a, s)
			}
		}
	}
}

// 2.3: each hash has what was written into it alone.
func TestHashesStandApart(t *testing.T) {
	a, b := sha.New(), sha.New()
	for i := range 100 {
		a.Write(some(i))
		b.Write("b")
		sha.Sum("between")
		sha.Mac("between", "too")
	}
	var all string
	for i := range 100 {
		all += some(i)
	}
	if s := a.Sum(); s != known(all) {
		t.Errorf("a: %x", s)
	}
	var bs string
	for range 100 {
		bs += "b"
	}
	if s := b.Sum(); s != known(bs) {
		t.Errorf("b: %x", s)
	}
	if s := sha.New().Sum(); s != known("") {
		t.Errorf("a new one behind them: %x", s)
	}
}

// 2.3: a hash that New did not give.
func TestHashThatNewDidNotGive(t *testing.T) {
	for name, h := range map[string]*sha.Hash{"nil": nil, "zero": {}, "new": new(sha.Hash)} {
		for _, s := range []string{"", "abc", some(64), some(1000)} {
			h.Write(s)
			if got := h.Sum(); got != "" {
				t.Errorf("%s: Sum behind %d bytes = %x", name, len(s), got)
			}
		}
	}
	var h sha.Hash
	h.Write("abc")
	if h != (sha.Hash{}) {
		t.Error("Write did something")
	}
}

// R3: what was written is not kept as it is.
func TestHashKeepsNoMemoryOfOthers(t *testing.T) {
	room := []byte("a text that fills no block")
	want := known(string(room))
	h := sha.New()
	h.Write(unsafe.String(&room[0], len(room)))
	for i := range room {
		room[i] = 'z'
	}
	if s := h.Sum(); s != want {
		t.Errorf("the sum went along with the text's memory: %x", s)
	}
}
