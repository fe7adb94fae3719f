package merkle

import (
	"math/bits"

	"gavel/api"
	"gavel/authn"
	"gavel/wire"
)

// text lays a key, a value or a digest; all of them are far shorter than a text may be.
func text(s string) string {
	out, _ := wire.PutText(s)
	return out
}

func leafOf(b *authn.Book, x api.Record) string {
	return b.Digest("L" + text(x.Key) + text(x.Value))
}

func nodeOf(b *authn.Book, left, right string) string {
	return b.Digest("N" + text(left) + text(right))
}

// rootOf is the root of n records, over whose leaves top stands.
func rootOf(b *authn.Book, n int, top string) string {
	count, _ := wire.PutInt(n) // never above MaxRecords
	return b.Digest("R" + count + text(top))
}

// split is how many of n leaves stand on the left: the greatest power of two below n, which is 2 or more.
func split(n int) int { return 1 << (bits.Len(uint(n-1)) - 1) }

// topOf is what stands over leaves.
func topOf(b *authn.Book, leaves []string) string {
	switch len(leaves) {
	case 0:
		return ""
	case 1:
		return leaves[0]
	}
	k := split(len(leaves))
	return nodeOf(b, topOf(b, leaves[:k]), topOf(b, leaves[k:]))
}

// sidesOf are the digests beside the way from leaf i up, the lowest first.
func sidesOf(b *authn.Book, leaves []string, i int) []string {
	if len(leaves) == 1 {
		return nil
	}
	k := split(len(leaves))
	if i < k {
		return append(sidesOf(b, leaves[:k], i), topOf(b, leaves[k:]))
	}
	return append(sidesOf(b, leaves[k:], i-k), topOf(b, leaves[:k]))
}

// height is how many sides there are beside the way from leaf i of n up.
func height(i, n int) int {
	h := 0
	for ; n > 1; h++ {
		k := split(n)
		if i < k {
			n = k
		} else {
			i, n = i-k, n-k
		}
	}
	return h
}

// climb joins leaf i of n with its sides, of which there must be as many as its height.
func climb(b *authn.Book, leaf string, i, n int, sides []string) string {
	if n == 1 {
		return leaf
	}
	k, last := split(n), len(sides)-1
	if i < k {
		return nodeOf(b, climb(b, leaf, i, k, sides[:last]), sides[last])
	}
	return nodeOf(b, sides[last], climb(b, leaf, i-k, n-k, sides[:last]))
}
