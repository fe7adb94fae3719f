package merkle_test

import (
	"math"
	"slices"
	"strings"
	"testing"

	"gavel/api"
	"gavel/authn"
	"gavel/merkle"
)

// copyOf is a proof in memory of its own.
func copyOf(p api.Proof) api.Proof {
	p.Paths = slices.Clone(p.Paths)
	for i := range p.Paths {
		p.Paths[i].Sides = slices.Clone(p.Paths[i].Sides)
	}
	return p
}

// but is a proof in which something is otherwise.
func but(p api.Proof, f func(p *api.Proof)) api.Proof {
	p = copyOf(p)
	f(&p)
	return p
}

func pathsOf(count int, l ...api.Path) api.Proof { return api.Proof{Count: count, Paths: l} }

// pathTo is the path to the record i.
func pathTo(t *testing.T, b *authn.Book, l []api.Record, i int) api.Path {
	t.Helper()
	return prove(t, b, l, l[i].Key).Paths[0]
}

// Verify: each form of a proof, right paths all of them, at each key.
func TestFormsOfProofs(t *testing.T) {
	for name, b := range books(t) {
		l := []api.Record{{Key: "b", Value: "1"}, {Key: "d", Value: ""}, {Key: "f", Value: "3"}, {Key: "h", Value: "4"}}
		r := root(t, b, l)
		p := func(at ...int) api.Proof {
			out := api.Proof{Count: 4}
			for _, i := range at {
				out.Paths = append(out.Paths, pathTo(t, b, l, i))
			}
			return out
		}
		// by the key: t is there, n is not there, - is no such proof
		rows := []struct {
			at   []int
			want string // of the keys a to i
		}{
			{[]int{0}, "nt-------"}, {[]int{1}, "---t-----"}, {[]int{2}, "-----t---"}, {[]int{3}, "-------tn"},
			{[]int{0, 1}, "--n------"}, {[]int{1, 2}, "----n----"}, {[]int{2, 3}, "------n--"},
			{[]int{1, 0}, "---------"}, {[]int{0, 2}, "---------"}, {[]int{0, 3}, "---------"}, {[]int{1, 3}, "---------"},
			{[]int{3, 2}, "---------"}, {[]int{0, 0}, "---------"}, {[]int{3, 3}, "---------"}, {[]int{3, 0}, "---------"},
			{[]int{0, 1, 2}, "---------"}, {nil, "---------"},
		}
		for _, row := range rows {
			for i, want := range row.want {
				key := string(rune('a' + i))
				switch want {
				case 't':
					wantVerify(t, name, b, r, key, p(row.at...), l[row.at[0]].Value, true, api.OK)
				case 'n':
					wantVerify(t, name, b, r, key, p(row.at...), "", false, api.OK)
				default:
					wantVerify(t, name, b, r, key, p(row.at...), "", false, api.ErrProof)
				}
			}
		}
	}
}

// Verify: of one record its path tells of all keys, of none no path does.
func TestProofsOfOneAndOfNone(t *testing.T) {
	for name, b := range books(t) {
		one := []api.Record{{Key: "b", Value: "2"}}
		r, none := root(t, b, one), root(t, b, nil)
		p := pathsOf(1, api.Path{Key: "b", Value: "2"})
		wantVerify(t, name, b, r, "a", p, "", false, api.OK)
		wantVerify(t, name, b, r, "b", p, "2", true, api.OK)
		wantVerify(t, name, b, r, "c", p, "", false, api.OK)
		wantVerify(t, name, b, none, "b", p, "", false, api.ErrProof)
		for _, key := range []string{"a", "b", strings.Repeat("k", 64)} {
			wantVerify(t, name, b, none, key, api.Proof{}, "", false, api.OK)
			wantVerify(t, name, b, none, key, api.Proof{Paths: []api.Path{}}, "", false, api.OK)
			wantVerify(t, name, b, r, key, api.Proof{}, "", false, api.ErrProof)
			wantVerify(t, name, b, r, key, api.Proof{Count: 1}, "", false, api.ErrProof)
			wantVerify(t, name, b, none, key, api.Proof{Count: 1}, "", false, api.ErrProof)
			wantVerify(t, name, b, "", key, api.Proof{}, "", false, api.ErrProof)
			// a root over no leaves that claims to have some
			wantVerify(t, name, b, top(b, 1, ""), key, api.Proof{Count: 1}, "", false, api.ErrProof)
			wantVerify(t, name, b, top(b, 0, leaf(b, key, "v")), key, pathsOf(0, api.Path{Key: key, Value: "v"}), "", false, api.ErrProof)
			wantVerify(t, name, b, top(b, 0, leaf(b, key, "v")), key, api.Proof{}, "", false, api.ErrProof)
		}
	}
}

// Verify: a proof in which one thing is otherwise.
func TestProofsThatDoNotLead(t *testing.T) {
	for name, b := range books(t) {
		l := recordsOf(11)
		r, other := root(t, b, l), root(t, b, recordsOf(12))
		for i, x := range l {
			p := prove(t, b, l, x.Key)
			wrong := map[string]api.Proof{
				"a value":          but(p, func(p *api.Proof) { p.Paths[0].Value += "x" }),
				"no value":         but(p, func(p *api.Proof) { p.Paths[0].Value = "" }),
				"one count more":   but(p, func(p *api.Proof) { p.Count++ }),
				"one count less":   but(p, func(p *api.Proof) { p.Count-- }),
				"no count":         but(p, func(p *api.Proof) { p.Count = 0 }),
				"the most":         but(p, func(p *api.Proof) { p.Count = 4096 }),
				"an index more":    but(p, func(p *api.Proof) { p.Paths[0].Index++ }),
				"an index less":    but(p, func(p *api.Proof) { p.Paths[0].Index-- }),
				"an index too far": but(p, func(p *api.Proof) { p.Paths[0].Index += 11 }),
				"the first side":   but(p, func(p *api.Proof) { p.Paths[0].Sides = p.Paths[0].Sides[1:] }),
				"the last side":    but(p, func(p *api.Proof) { p.Paths[0].Sides = p.Paths[0].Sides[:len(p.Paths[0].Sides)-1] }),
				"no sides":         but(p, func(p *api.Proof) { p.Paths[0].Sides = nil }),
				"a side more":      but(p, func(p *api.Proof) { p.Paths[0].Sides = append(p.Paths[0].Sides, "side") }),
				"an empty one":     but(p, func(p *api.Proof) { p.Paths[0].Sides = append(p.Paths[0].Sides, "") }),
				"one ahead":        but(p, func(p *api.Proof) { p.Paths[0].Sides = append([]string{""}, p.Paths[0].Sides...) }),
				"the last twice":   but(p, func(p *api.Proof) { s := p.Paths[0].Sides; p.Paths[0].Sides = append(s, s[len(s)-1]) }),
				"turned":           but(p, func(p *api.Proof) { slices.Reverse(p.Paths[0].Sides) }),
			}
			for j := range p.Paths[0].Sides {
				wrong["side "+string(rune('0'+j))] = but(p, func(p *api.Proof) { p.Paths[0].Sides[j] += "x" })
				wrong["no side "+string(rune('0'+j))] = but(p, func(p *api.Proof) { p.Paths[0].Sides[j] = "" })
			}
			for what, q := range wrong {
				wantVerify(t, name+": "+what, b, r, x.Key, q, "", false, api.ErrProof)
			}
			for what, to := range map[string]string{"another root": other, "no root": "", "a long root": r + "\x00", "a short root": r[:len(r)-1], "what stands over": rootless(b, l), "a great one": strings.Repeat("r", 1<<20)} {
				wantVerify(t, name+": "+what, b, to, x.Key, p, "", false, api.ErrProof)
			}
			// the key of a neighbour with the path of this one
			q := but(p, func(p *api.Proof) { p.Paths[0].Key = keyOf(i + 1) })
			wantVerify(t, name+": another key", b, r, keyOf(i+1), q, "", false, api.ErrProof)
			wantVerify(t, name, b, r, x.Key, p, x.Value, true, api.OK)
		}
	}
}

// rootless is what stands over the leaves of records.
func rootless(b *authn.Book, l []api.Record) string {
	var leaves []string
	for _, x := range l {
		leaves = append(leaves, leaf(b, x.Key, x.Value))
	}
	return stand(b, leaves)
}

// Verify: of two paths each must lead.
func TestBothPathsLead(t *testing.T) {
	for name, b := range books(t) {
		l := recordsOf(6)
		r := root(t, b, l)
		for i := range 5 {
			key := keyOf(i) + "x"
			p := prove(t, b, l, key)
			wantVerify(t, name, b, r, key, p, "", false, api.OK)
			for j := range 2 {
				for what, f := range map[string]func(x *api.Path){
					"a value": func(x *api.Path) { x.Value += "x" },
					"a key":   func(x *api.Path) { x.Key = keyOf(i+j) + strings.Repeat("x", 2*(1-j)) + "\x00" },
					"a side":  func(x *api.Path) { x.Sides[0] = "x" },
					"sides":   func(x *api.Path) { x.Sides = x.Sides[1:] },
					"index":   func(x *api.Path) { x.Index++ },
					"below":   func(x *api.Path) { x.Index-- },
				} {
					q := but(p, func(p *api.Proof) { f(&p.Paths[j]) })
					wantVerify(t, name+": "+what, b, r, key, q, "", false, api.ErrProof)
				}
				// the other path alone shows a key only at an edge
				q := pathsOf(p.Count, p.Paths[j])
				if j == 0 || i+1 != 5 {
					wantVerify(t, name+": one path", b, r, key, q, "", false, api.ErrProof)
				}
			}
		}
	}
}

// Verify: proofs that would lead, but may not be (1.9).
func TestProofsThatMayNotBe(t *testing.T) {
	for name, b := range books(t) {
		many := slices.Repeat([]string{leaf(b, "a", "")}, 4096)
		big := node(b, stand(b, many), leaf(b, "b", "")) // over 4097
		deep := leaf(b, "a", "")
		long := strings.Repeat("s", 33)
		rows := []struct {
			name, to, key string
			p             api.Proof
		}{
			{"4097 records", top(b, 4097, big), "c", pathsOf(4097, api.Path{Index: 4096, Key: "b", Sides: []string{stand(b, many)}})},
			{"4097 records, the key", top(b, 4097, big), "b", pathsOf(4097, api.Path{Index: 4096, Key: "b", Sides: []string{stand(b, many)}})},
			{"a key of 65", top(b, 1, leaf(b, strings.Repeat("k", 65), "")), "a", pathsOf(1, api.Path{Key: strings.Repeat("k", 65)})},
			{"a value of 4097", top(b, 1, leaf(b, "a", strings.Repeat("v", 4097))), "a", pathsOf(1, api.Path{Key: "a", Value: strings.Repeat("v", 4097)})},
			{"a side of 33", top(b, 2, node(b, deep, long)), "a", pathsOf(2, api.Path{Key: "a", Sides: []string{long}})},
			{"three paths", top(b, 1, deep), "a", pathsOf(1, api.Path{Key: "a"}, api.Path{Key: "a"}, api.Path{Key: "a"})},
			{"a count below 0", top(b, 0, ""), "a", api.Proof{Count: -1}},
			{"14 sides", top(b, 1, deep), "a", pathsOf(1, api.Path{Key: "a", Sides: slices.Repeat([]string{"s"}, 14)})},
		}
		for _, r := range rows {
			wantVerify(t, name+": "+r.name, b, r.to, r.key, r.p, "", false, api.ErrProof)
		}
		for _, n := range []int{-1, 1, 2, 4095, 4096, math.MinInt, math.MaxInt} {
			wantVerify(t, name+": an index", b, top(b, 1, deep), "a", pathsOf(1, api.Path{Index: n, Key: "a"}), "", false, api.ErrProof)
			if n != 1 {
				wantVerify(t, name+": a count", b, top(b, 1, deep), "a", pathsOf(n, api.Path{Key: "a"}), "", false, api.ErrProof)
			}
		}
		// the same at the most that may be
		wantVerify(t, name, b, top(b, 4096, stand(b, many)), "a", pathsOf(4096, api.Path{Index: 4095, Key: "a", Sides: halves(b, many[0])}), "", true, api.OK)
		key, value := strings.Repeat("k", 64), strings.Repeat("v", 4096)
		wantVerify(t, name, b, top(b, 1, leaf(b, key, value)), key, pathsOf(1, api.Path{Key: key, Value: value}), value, true, api.OK)
		wantVerify(t, name, b, top(b, 2, node(b, deep, long[1:])), "a", pathsOf(2, api.Path{Key: "a", Sides: []string{long[1:]}}), "", true, api.OK)
		wantVerify(t, name, b, top(b, 2, node(b, deep, "")), "a", pathsOf(2, api.Path{Key: "a", Sides: []string{""}}), "", true, api.OK)
	}
}

// halves are the sides over 4096 leaves that are all alike.
func halves(b *authn.Book, x string) []string {
	var out []string
	for range 12 {
		out = append(out, x)
		x = node(b, x, x)
	}
	return out
}

// Verify: the root counts its records, so that an inner node is none.
func TestInnerNodesAreNoRoots(t *testing.T) {
	for name, b := range books(t) {
		l := recordsOf(4)
		p := pathTo(t, b, l, 1)
		p.Sides = p.Sides[:1] // to the node over the first two
		wantVerify(t, name, b, root(t, b, l[:2]), l[1].Key, pathsOf(2, p), l[1].Value, true, api.OK)
		wantVerify(t, name, b, root(t, b, l), l[1].Key, pathsOf(2, p), "", false, api.ErrProof)
		wantVerify(t, name, b, root(t, b, l), l[1].Key, pathsOf(4, p), "", false, api.ErrProof)
		// a node told as a leaf
		n := node(b, leaf(b, l[0].Key, l[0].Value), leaf(b, l[1].Key, l[1].Value))
		wantVerify(t, name, b, top(b, 1, n), "a", pathsOf(1, api.Path{Key: "a"}), "", false, api.ErrProof)
	}
}

// Verify: ErrArg ahead of ErrField ahead of ErrProof.
func TestVerifyRefusesInOrder(t *testing.T) {
	made := authn.NewBook()
	l := recordsOf(3)
	r, p := root(t, made, l), prove(t, made, l, keyOf(1))
	broken := api.Proof{Count: -1}
	bad := []string{"", strings.Repeat("k", 65), strings.Repeat("k", 1<<20)}
	for _, key := range append(bad, keyOf(1)) {
		for _, q := range []api.Proof{p, broken, {}} {
			wantVerify(t, "nil", nil, r, key, q, "", false, api.ErrArg)
			wantVerify(t, "a zero book", &authn.Book{}, r, key, q, "", false, api.ErrArg)
			wantVerify(t, "a zero book", &authn.Book{}, "", key, q, "", false, api.ErrArg)
		}
	}
	for name, b := range books(t) {
		for _, key := range bad {
			for _, q := range []api.Proof{p, broken, {}} {
				wantVerify(t, name, b, r, key, q, "", false, api.ErrField)
			}
			wantVerify(t, name, b, top(b, 1, leaf(b, key, "v")), key, pathsOf(1, api.Path{Key: key, Value: "v"}), "", false, api.ErrField)
			wantVerify(t, name, b, top(b, 0, ""), key, api.Proof{}, "", false, api.ErrField)
		}
		wantVerify(t, name, b, r, keyOf(1), broken, "", false, api.ErrProof)
	}
}

// R2: a proof that is wrong as it stands lets a book number nothing.
func TestWrongProofsNumberNothing(t *testing.T) {
	good := api.Path{Index: 1, Key: "b", Sides: []string{"x", "y"}} // of three or four
	low, high := api.Path{Index: 0, Key: "a", Sides: []string{"x", "y"}}, api.Path{Index: 2, Key: "c", Sides: []string{"x", "y"}}
	for what, p := range map[string]api.Proof{
		"a count": {Count: 1}, "no count": {Count: -1}, "too many": {Count: 4097},
		"another key": pathsOf(4, good), "far": pathsOf(4, low, high), "alike": pathsOf(4, low, low),
		"an index": pathsOf(1, good), "sides": pathsOf(2, good), "a key": pathsOf(3, good),
	} {
		quiet(t, what, func(b *authn.Book) { wantVerify(t, what, b, "to", "bb", p, "", false, api.ErrProof) })
	}
	quiet(t, "no key", func(b *authn.Book) { wantVerify(t, "no key", b, "to", "", pathsOf(4, good), "", false, api.ErrField) })
}

// 4.5: by a book that numbers, out of all parts of all proofs of some records, whatever is taken tells what there is.
func TestTakenProofsAreTrue(t *testing.T) {
	b := authn.NewBook()
	taken := 0
	for n := range 6 {
		l := recordsOf(n)
		r := root(t, b, l)
		keys := []string{"a", "z"}
		for _, x := range l {
			keys = append(keys, x.Key, x.Key+"x")
		}
		for _, p := range forged(t, b, n) {
			for _, key := range keys {
				value, has, e := merkle.Verify(b, r, key, p)
				if e != api.OK {
					if value != "" || has || e != api.ErrProof {
						t.Fatalf("%v of %q: %q, %v, %d", p, key, value, has, e)
					}
					continue
				}
				taken++
				if v, ok := truth(l, key); v != value || ok != has {
					t.Fatalf("%d records: %v shows of %q: %q, %v", n, p, key, value, has)
				}
			}
		}
	}
	if taken == 0 {
		t.Error("nothing was taken")
	}
}

// forged are proofs put together of the paths of n records and of their neighbours in number, with other counts and places.
func forged(t *testing.T, b *authn.Book, n int) []api.Proof {
	var paths []api.Path
	for m := max(n-1, 1); m <= n+1; m++ {
		for i := range m {
			x := pathTo(t, b, recordsOf(m), i)
			for d := -1; d <= 1; d++ {
				for cut := range 2 {
					y := x
					y.Index += d
					y.Sides = x.Sides[:max(len(x.Sides)-cut, 0)]
					paths = append(paths, y)
				}
			}
			other := x
			other.Key += "x"
			paths = append(paths, other)
			other = x
			other.Value += "x"
			paths = append(paths, other)
		}
	}
	var out []api.Proof
	for count := max(n-1, 0); count <= n+1; count++ {
		out = append(out, pathsOf(count))
		for _, x := range paths {
			out = append(out, pathsOf(count, x))
			for _, y := range paths {
				out = append(out, pathsOf(count, x, y))
			}
		}
	}
	return out
}
