package merkle_test

import (
	"reflect"
	"slices"
	"strings"
	"testing"

	"gavel/api"
	"gavel/authn"
	"gavel/merkle"
)

// newTree is a tree of these records.
func newTree(t *testing.T, b *authn.Book, l []api.Record) *merkle.Tree {
	t.Helper()
	x := merkle.New(b)
	if x == nil {
		t.Fatal("no tree")
	}
	for _, r := range l {
		if e := x.Put(r.Key, r.Value); e != api.OK {
			t.Fatalf("Put(%q): %d", r.Key, e)
		}
	}
	return x
}

// wantTree: all that a tree tells is that of these records.
func wantTree(t *testing.T, what string, b *authn.Book, x *merkle.Tree, l []api.Record, keys []string) {
	t.Helper()
	if got := x.Records(); !slices.Equal(got, l) {
		t.Fatalf("%s: the records are %q, want %q", what, got, l)
	}
	if x.Root() != rootBy(b, l) {
		t.Fatalf("%s: not the root of %q", what, l)
	}
	for _, key := range keys {
		v, has := truth(l, key)
		if got, ok := x.Get(key); got != v || ok != has {
			t.Fatalf("%s: Get(%q) = %q, %v", what, key, got, ok)
		}
		p, e := x.Prove(key)
		want, f := merkle.Prove(b, l, key)
		if e != f || !reflect.DeepEqual(p, want) {
			t.Fatalf("%s: Prove(%q) = %v, %d; want %v, %d", what, key, p, e, want, f)
		}
	}
}

// 4.3
func TestTreeOfFew(t *testing.T) {
	for name, b := range books(t) {
		keys := []string{"", "a", "b", "c", "d", "e", strings.Repeat("k", 65)}
		x := newTree(t, b, nil)
		wantTree(t, name, b, x, nil, keys)
		put := func(key, value string, want ...api.Record) {
			t.Helper()
			if e := x.Put(key, value); e != api.OK {
				t.Fatalf("%s: Put(%q): %d", name, key, e)
			}
			wantTree(t, name, b, x, want, keys)
		}
		drop := func(key string, was bool, want ...api.Record) {
			t.Helper()
			if got := x.Drop(key); got != was {
				t.Fatalf("%s: Drop(%q) = %v", name, key, got)
			}
			wantTree(t, name, b, x, want, keys)
		}
		b1, b2, d1, a1 := api.Record{Key: "b", Value: "1"}, api.Record{Key: "b", Value: "2"}, api.Record{Key: "d"}, api.Record{Key: "a", Value: "aa"}
		drop("a", false)
		put("b", "1", b1)
		put("b", "1", b1)
		put("d", "", b1, d1)
		put("a", "aa", a1, b1, d1)
		put("b", "2", a1, b2, d1)
		drop("c", false, a1, b2, d1)
		drop("", false, a1, b2, d1)
		drop(strings.Repeat("k", 65), false, a1, b2, d1)
		drop("b", true, a1, d1)
		drop("b", false, a1, d1)
		drop("d", true, a1)
		drop("a", true)
		drop("a", false)
		put("d", "", d1)
	}
}

// 4.3
func TestPutRefuses(t *testing.T) {
	b := authn.NewBook()
	x := newTree(t, b, recordsOf(3))
	for _, r := range []api.Record{
		{}, {Value: "v"}, {Key: strings.Repeat("k", 65)}, {Key: strings.Repeat("é", 33)}, {Key: "a", Value: strings.Repeat("v", 4097)},
		{Key: keyOf(1), Value: strings.Repeat("v", 4097)}, {Key: strings.Repeat("k", 65), Value: strings.Repeat("v", 1<<21)},
	} {
		if e := x.Put(r.Key, r.Value); e != api.ErrField {
			t.Errorf("a key of %d, a value of %d: %d", len(r.Key), len(r.Value), e)
		}
		wantTree(t, "refused", b, x, recordsOf(3), []string{"a", keyOf(1)})
		quiet(t, "refused", func(b *authn.Book) { merkle.New(b).Put(r.Key, r.Value) })
	}
	key, value := strings.Repeat("k", 64), strings.Repeat("v", 4096)
	if e := x.Put(key, value); e != api.OK {
		t.Errorf("at the most: %d", e)
	}
	wantTree(t, "at the most", b, x, append(recordsOf(3), api.Record{Key: key, Value: value}), []string{key})
}

// 4.3
func TestTreeProveRefuses(t *testing.T) {
	for _, n := range []int{0, 1, 3} {
		for _, key := range []string{"", strings.Repeat("k", 65)} {
			x := newTree(t, authn.NewBook(), recordsOf(n))
			if p, e := x.Prove(key); e != api.ErrField || p.Count != 0 || len(p.Paths) != 0 {
				t.Errorf("a key of %d among %d: %v, %d", len(key), n, p, e)
			}
		}
	}
	quiet(t, "no key", func(b *authn.Book) { merkle.New(b).Prove("") })
}

// 4.3: the 4096th record and the 4097th.
func TestTreeIsFull(t *testing.T) {
	b := authn.NewBook()
	l := recordsOf(4096)
	x := newTree(t, b, l[:4095])
	keys := []string{keyOf(0), keyOf(4095), "z"}
	wantTree(t, "4095", b, x, l[:4095], keys)
	if e := x.Put(l[4095].Key, l[4095].Value); e != api.OK {
		t.Fatalf("the 4096th: %d", e)
	}
	wantTree(t, "4096", b, x, l, keys)
	before := numbered(b, "before")
	for _, key := range []string{"a", keyOf(0) + "x", "z", keyOf(4096)} {
		if e := x.Put(key, "v"); e != api.ErrFull {
			t.Errorf("the 4097th, %q: %d", key, e)
		}
	}
	if numbered(b, "behind") != before+1 {
		t.Error("something was numbered for a record that has no room")
	}
	for _, r := range []api.Record{{Key: ""}, {Key: "z", Value: strings.Repeat("v", 4097)}, {Key: strings.Repeat("z", 65)}} {
		if e := x.Put(r.Key, r.Value); e != api.ErrField {
			t.Errorf("a field of a full tree: %d", e)
		}
	}
	wantTree(t, "refused", b, x, l, keys)
	l[7].Value = "other"
	l[4095].Value = ""
	if e := max(x.Put(l[7].Key, "other"), x.Put(l[4095].Key, "")); e != api.OK {
		t.Errorf("values of a full tree: %d", e)
	}
	wantTree(t, "other values", b, x, l, keys)
	if !x.Drop(keyOf(0)) {
		t.Error("the first is not there")
	}
	if e := x.Put("z", "v"); e != api.OK {
		t.Errorf("where one was dropped: %d", e)
	}
	wantTree(t, "one for another", b, x, append(l[1:], api.Record{Key: "z", Value: "v"}), keys)
}

// 4.3: many calls in an order that is far from rising, against a list that is sorted anew each time.
func TestTreeOfManyCalls(t *testing.T) {
	for name, b := range books(t) {
		x, now, seed := newTree(t, b, nil), map[string]string{}, uint32(7)
		next := func(n uint32) int {
			seed = seed*1664525 + 1013904223
			return int((seed >> 16) % n)
		}
		for step := range 600 {
			key, value := keyOf(next(24)), strings.Repeat("v", next(5))
			if next(3) == 0 {
				_, was := now[key]
				delete(now, key)
				if x.Drop(key) != was {
					t.Fatalf("%s: step %d: Drop(%q) is not %v", name, step, key, was)
				}
			} else {
				now[key] = value
				if e := x.Put(key, value); e != api.OK {
					t.Fatalf("%s: step %d: Put(%q): %d", name, step, key, e)
				}
			}
			var l []api.Record
			for k, v := range now {
				l = append(l, api.Record{Key: k, Value: v})
			}
			slices.SortFunc(l, func(a, b api.Record) int { return strings.Compare(a.Key, b.Key) })
			wantTree(t, name, b, x, l, []string{key, keyOf(next(24)) + "x", "a", "z"})
		}
	}
}

// 4.3: the order of calls does not show, and two trees of one book are two.
func TestTreesOfOneBook(t *testing.T) {
	b := authn.NewBook()
	l := recordsOf(20)
	x, y := newTree(t, b, l), merkle.New(b)
	for _, r := range slices.Backward(l) {
		y.Put(r.Key, "first")
		y.Put(r.Key, r.Value)
	}
	wantTree(t, "backward", b, y, l, []string{keyOf(3), "z"})
	y.Drop(keyOf(3))
	wantTree(t, "the other", b, x, l, []string{keyOf(3)})
	if x.Root() == y.Root() {
		t.Error("one root of two trees")
	}
}

// 4.3, 4.7
func TestNoTreeWithoutABook(t *testing.T) {
	for _, b := range []*authn.Book{nil, {}} {
		if x := merkle.New(b); x != nil {
			t.Error("a tree without a book")
		}
	}
	quiet(t, "a tree without records", func(b *authn.Book) { merkle.New(b) })
}

// 4.7
func TestTreesThatNewDidNotGive(t *testing.T) {
	for name, x := range map[string]*merkle.Tree{"nil": nil, "zero": {}, "without a book": merkle.New(nil)} {
		for range 2 { // no call makes it a tree
			for _, key := range []string{"a", "", strings.Repeat("k", 65)} {
				for _, value := range []string{"", "v", strings.Repeat("v", 4097)} {
					if e := x.Put(key, value); e != api.ErrArg {
						t.Errorf("%s: Put: %d", name, e)
					}
				}
				if p, e := x.Prove(key); e != api.ErrArg || p.Count != 0 || len(p.Paths) != 0 {
					t.Errorf("%s: Prove: %v, %d", name, p, e)
				}
				if v, has := x.Get(key); v != "" || has {
					t.Errorf("%s: Get: %q, %v", name, v, has)
				}
				if x.Drop(key) {
					t.Errorf("%s: dropped", name)
				}
			}
			if x.Root() != "" || len(x.Records()) != 0 {
				t.Errorf("%s: %x, %v", name, x.Root(), x.Records())
			}
		}
	}
}

// R3: what a tree answered is not its own memory.
func TestTreeAnswersNewMemory(t *testing.T) {
	b := authn.NewBook()
	x := newTree(t, b, recordsOf(6))
	key := keyOf(2) + "x"
	l, p := x.Records(), prove(t, b, recordsOf(6), key)
	got, _ := x.Prove(key)
	for i := range l {
		l[i] = api.Record{Key: "changed"}
	}
	for i := range got.Paths {
		for j := range got.Paths[i].Sides {
			got.Paths[i].Sides[j] = "changed"
		}
		got.Paths[i].Key = "changed"
	}
	_ = append(l[:0], make([]api.Record, cap(l))...)
	wantTree(t, "changed answers", b, x, recordsOf(6), []string{key, keyOf(1)})
	again, _ := x.Prove(key)
	wantProof(t, "again", again, p)
	l = x.Records()
	x.Put("a", "v")
	x.Drop(keyOf(1))
	x.Put(keyOf(4), "other")
	if !slices.Equal(l, recordsOf(6)) {
		t.Error("an answer changed with the tree")
	}
}
