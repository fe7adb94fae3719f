package sha

import "math/bits"

const (
	blockSize  = 64 // bytes of a block
	blockWords = 16 // words that a block has
	rounds     = 64
	sizePlace  = 56 // where the text's size stands in its last block
)

// state is h0 to h7 or, within a block, a to h.
type state [8]uint32

// roundWords are k(0) to k(63).
var roundWords = [rounds]uint32{
	0x428a2f98, 0x71374491, 0xb5c0fbcf, 0xe9b5dba5, 0x3956c25b, 0x59f111f1, 0x923f82a4, 0xab1c5ed5,
	0xd807aa98, 0x12835b01, 0x243185be, 0x550c7dc3, 0x72be5d74, 0x80deb1fe, 0x9bdc06a7, 0xc19bf174,
	0xe49b69c1, 0xefbe4786, 0x0fc19dc6, 0x240ca1cc, 0x2de92c6f, 0x4a7484aa, 0x5cb0a9dc, 0x76f988da,
	0x983e5152, 0xa831c66d, 0xb00327c8, 0xbf597fc7, 0xc6e00bf3, 0xd5a79147, 0x06ca6351, 0x14292967,
	0x27b70a85, 0x2e1b2138, 0x4d2c6dfc, 0x53380d13, 0x650a7354, 0x766a0abb, 0x81c2c92e, 0x92722c85,
	0xa2bfe8a1, 0xa81a664b, 0xc24b8b70, 0xc76c51a3, 0xd192e819, 0xd6990624, 0xf40e3585, 0x106aa070,
	0x19a4c116, 0x1e376c08, 0x2748774c, 0x34b0bcb5, 0x391c0cb3, 0x4ed8aa4a, 0x5b9cca4f, 0x682e6ff3,
	0x748f82ee, 0x78a5636f, 0x84c87814, 0x8cc70208, 0x90befffa, 0xa4506ceb, 0xbef9a3f7, 0xc67178f2,
}

// first is the state ahead of all blocks.
func first() state {
	return state{
		0x6a09e667, 0xbb67ae85, 0x3c6ef372, 0xa54ff53a,
		0x510e527f, 0x9b05688c, 0x1f83d9ab, 0x5be0cd19,
	}
}

// after is the state behind one more block.
func (s state) after(bytes [blockSize]byte) state {
	w := schedule(bytes)
	a, b, c, d, e, f, g, h := s[0], s[1], s[2], s[3], s[4], s[5], s[6], s[7]
	for i := range rounds {
		t := h + (right(e, 6) ^ right(e, 11) ^ right(e, 25)) + ((e & f) ^ (^e & g)) + roundWords[i] + w[i]
		u := (right(a, 2) ^ right(a, 13) ^ right(a, 22)) + ((a & b) ^ (a & c) ^ (b & c))
		h, g, f, e, d, c, b, a = g, f, e, d+t, c, b, a, t+u
	}
	return s.plus(state{a, b, c, d, e, f, g, h})
}

// plus is the sums of the two states' words, one by one.
func (s state) plus(grown state) state {
	for i := range len(s) {
		s[i] += grown[i]
	}
	return s
}

// schedule is w(0) to w(63) of a block.
func schedule(b [blockSize]byte) [rounds]uint32 {
	var w [rounds]uint32
	for i := range blockWords {
		w[i] = word(b, 4*i)
	}
	for i := blockWords; i < rounds; i++ {
		v, x := w[i-15], w[i-2]
		older := right(v, 7) ^ right(v, 18) ^ v>>3
		newer := right(x, 17) ^ right(x, 19) ^ x>>10
		w[i] = w[i-16] + older + w[i-7] + newer
	}
	return w
}

// word is the four bytes of a block from a place on, the highest first.
func word(b [blockSize]byte, at int) uint32 {
	return uint32(b[at])<<24 | uint32(b[at+1])<<16 | uint32(b[at+2])<<8 | uint32(b[at+3])
}

// right is x turned to the right by n bits.
func right(x uint32, n int) uint32 { return bits.RotateLeft32(x, -n) }

// text is the state's words, the highest byte first.
func (s state) text() string {
	var out []byte
	for i := range len(s) {
		out = append(out, byte(s[i]>>24), byte(s[i]>>16), byte(s[i]>>8), byte(s[i]))
	}
	return string(out)
}

// end is what stands behind a text of so many bytes, to fill its last block.
func end(size uint64) string {
	out := []byte{0x80}
	for (size+uint64(len(out)))%blockSize != sizePlace {
		out = append(out, 0)
	}
	for i := range 8 {
		out = append(out, byte(size*8>>(56-8*i)))
	}
	return string(out)
}
