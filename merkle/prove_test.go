package merkle_test

import (
	"slices"
	"strings"
	"testing"

	"gavel/api"
	"gavel/authn"
	"gavel/merkle"
)

// 4.2, 4.4: the chapter's example.
func TestExample(t *testing.T) {
	for name, b := range books(t) {
		l := []api.Record{{Key: "a", Value: "1"}, {Key: "c", Value: "3"}}
		la, lc := b.Digest("L\x01a\x011"), b.Digest("L\x01c\x013")
		p := prove(t, b, l, "b")
		wantProof(t, name, p, api.Proof{Count: 2, Paths: []api.Path{
			{Index: 0, Key: "a", Value: "1", Sides: []string{lc}},
			{Index: 1, Key: "c", Value: "3", Sides: []string{la}},
		}})
		wantVerify(t, name, b, root(t, b, l), "b", p, "", false, api.OK)
		for _, key := range []string{"a", "c", "A", "d"} {
			wantVerify(t, name, b, root(t, b, l), key, p, "", false, api.ErrProof)
		}
	}
}

// 4.2: the paths of seven records, written out.
func TestPathsOfSeven(t *testing.T) {
	for name, b := range books(t) {
		l := recordsOf(7)
		var s []string // the leaves
		for _, x := range l {
			s = append(s, leaf(b, x.Key, x.Value))
		}
		n01, n23, n45 := node(b, s[0], s[1]), node(b, s[2], s[3]), node(b, s[4], s[5])
		left, right := node(b, n01, n23), node(b, n45, s[6])
		sides := [][]string{
			{s[1], n23, right}, {s[0], n23, right}, {s[3], n01, right}, {s[2], n01, right},
			{s[5], s[6], left}, {s[4], s[6], left}, {n45, left},
		}
		path := func(i int) api.Path {
			return api.Path{Index: i, Key: l[i].Key, Value: l[i].Value, Sides: sides[i]}
		}
		for i := range l {
			wantProof(t, name, prove(t, b, l, keyOf(i)), api.Proof{Count: 7, Paths: []api.Path{path(i)}})
			if i < 6 {
				want := api.Proof{Count: 7, Paths: []api.Path{path(i), path(i + 1)}}
				wantProof(t, name, prove(t, b, l, keyOf(i)+"\x00"), want)
				wantProof(t, name, prove(t, b, l, keyOf(i)+strings.Repeat("\xff", 61)), want)
			}
		}
		for _, key := range []string{"\x00", "k", "k\x00", "A"} {
			wantProof(t, name, prove(t, b, l, key), api.Proof{Count: 7, Paths: []api.Path{path(0)}})
		}
		for _, key := range []string{keyOf(6) + "\x00", "l", "\xff", strings.Repeat("\xff", 64)} {
			wantProof(t, name, prove(t, b, l, key), api.Proof{Count: 7, Paths: []api.Path{path(6)}})
		}
	}
}

// 4.2: of no records there are no paths, of one there are no sides.
func TestProofsOfNoneAndOne(t *testing.T) {
	for name, b := range books(t) {
		for _, key := range []string{"a", "\x00", strings.Repeat("k", 64)} {
			wantProof(t, name, prove(t, b, nil, key), api.Proof{})
			wantProof(t, name, prove(t, b, []api.Record{}, key), api.Proof{})
		}
		one := []api.Record{{Key: "b", Value: "2"}}
		want := api.Proof{Count: 1, Paths: []api.Path{{Key: "b", Value: "2"}}}
		for _, key := range []string{"a", "b", "c"} {
			wantProof(t, name, prove(t, b, one, key), want)
		}
	}
}

// truth is what there is at a key among records.
func truth(l []api.Record, key string) (string, bool) {
	for _, x := range l {
		if x.Key == key {
			return x.Value, true
		}
	}
	return "", false
}

// 4.4: of each number of records each key, and each place between, below and above.
func TestWhatIsProvedIsTaken(t *testing.T) {
	for name, b := range books(t) {
		for _, n := range []int{0, 1, 2, 3, 4, 5, 6, 7, 8, 9, 15, 16, 17, 33, 67} {
			l := recordsOf(n)
			r := root(t, b, l)
			keys := []string{"a", "z", keyOf(n), keyOf(n) + "x"}
			for _, x := range l {
				keys = append(keys, x.Key, x.Key+"\x00", x.Key[:2])
			}
			for _, key := range keys {
				v, has := truth(l, key)
				wantVerify(t, name, b, r, key, prove(t, b, l, key), v, has, api.OK)
			}
		}
	}
}

// 4.4: the greatest trees, and the greatest records.
func TestGreatProofsAreTaken(t *testing.T) {
	for name, b := range books(t) {
		for _, l := range [][]api.Record{recordsOf(4096), recordsOf(4095), great()} {
			r := root(t, b, l)
			for _, i := range []int{0, 1, len(l) / 2, len(l) - 2, len(l) - 1} {
				key := l[i].Key
				p := prove(t, b, l, key)
				wantVerify(t, name, b, r, key, p, l[i].Value, true, api.OK)
				for _, none := range []string{key[:3] + "\x00", key[:3] + "\xff", key[:2]} {
					wantVerify(t, name, b, r, none, prove(t, b, l, none), "", false, api.OK)
				}
			}
			wantVerify(t, name, b, r, "l", prove(t, b, l, "l"), "", false, api.OK)
		}
	}
	if p := prove(t, authn.NewBook(), recordsOf(4096), "k"); len(p.Paths) != 1 || len(p.Paths[0].Sides) != 12 || p.Count != 4096 {
		t.Errorf("4096 records: %d paths", len(p.Paths))
	}
}

// 4.2
func TestProveRefuses(t *testing.T) {
	bad := []string{"", strings.Repeat("k", 65), strings.Repeat("é", 33), strings.Repeat("k", 1<<20)}
	for name, b := range books(t) {
		for _, r := range wrongRecords() {
			for _, key := range append(bad, "a", keyOf(0)) {
				if p, e := merkle.Prove(b, r.l, key); e != r.want || p.Count != 0 || len(p.Paths) != 0 {
					t.Errorf("%s, %s: %v, %d; want %d", name, r.name, p, e, r.want)
				}
			}
		}
		for n := range 4 {
			for _, key := range bad {
				if p, e := merkle.Prove(b, recordsOf(n), key); e != api.ErrField || p.Count != 0 || len(p.Paths) != 0 {
					t.Errorf("%s: %d records, a key of %d bytes: %v, %d", name, n, len(key), p, e)
				}
			}
		}
		prove(t, b, recordsOf(3), strings.Repeat("k", 64))
		prove(t, b, recordsOf(3), strings.Repeat("é", 32))
	}
	quiet(t, "a key that is none", func(b *authn.Book) { merkle.Prove(b, recordsOf(3), "") })
	quiet(t, "two alike", func(b *authn.Book) { merkle.Prove(b, []api.Record{{Key: "a"}, {Key: "a"}}, "a") })
	for _, b := range []*authn.Book{nil, {}} {
		for _, key := range append(bad, "a") {
			for _, l := range [][]api.Record{nil, recordsOf(3), recordsOf(4097), {{}}} {
				if p, e := merkle.Prove(b, l, key); e != api.ErrArg || p.Count != 0 || len(p.Paths) != 0 {
					t.Errorf("no book: %v, %d", p, e)
				}
			}
		}
	}
}

// R3: no two lists of a proof, and no two proofs, share memory.
func TestProofsAreNewMemory(t *testing.T) {
	b := authn.NewBook()
	l := recordsOf(6)
	key := keyOf(2) + "x"
	p, again := prove(t, b, l, key), prove(t, b, l, key)
	for i := range p.Paths {
		other := slices.Clone(p.Paths[1-i].Sides)
		mine := p.Paths[i].Sides
		for j := range mine {
			mine[j] = "changed"
		}
		_ = append(mine[:0], make([]string, cap(mine))...)
		if !slices.Equal(p.Paths[1-i].Sides, other) {
			t.Errorf("the sides of path %d are those of the other one", i)
		}
	}
	wantProof(t, "again", prove(t, b, l, key), again)
	wantVerify(t, "again", b, root(t, b, l), key, again, "", false, api.OK)
}
