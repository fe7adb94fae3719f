package sha

// The two bytes that part the key of the inner sum from that of the outer one.
const (
	innerMask = 0x36
	outerMask = 0x5c
)

// Mac is a text's HMAC by a key.
func Mac(key, s string) string {
	if len(key) > blockSize {
		key = Sum(key)
	}
	inner := New()
	inner.Write(masked(key, innerMask))
	inner.Write(s)
	return Sum(masked(key, outerMask) + inner.Sum())
}

// masked is a key of at most a block, filled up with bytes 0 to a block, each byte xor a mask.
func masked(key string, mask byte) string {
	var out [blockSize]byte
	copy(out[:], key)
	for i := range blockSize {
		out[i] ^= mask
	}
	return string(out[:])
}
