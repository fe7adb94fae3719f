package merkle_test

import (
	"slices"
	"strings"
	"testing"

	"gavel/api"
	"gavel/authn"
	"gavel/merkle"
)

// 4.1: the words of the chapter, written out.
func TestRootOfFew(t *testing.T) {
	for name, b := range books(t) {
		la, lc, ld := b.Digest("L\x01a\x011"), b.Digest("L\x01c\x00"), b.Digest("L\x03ddd\x02xy")
		le, lf := b.Digest("L\x01e\x00"), b.Digest("L\x01f\x00")
		l := []api.Record{{Key: "a", Value: "1"}, {Key: "c"}, {Key: "ddd", Value: "xy"}, {Key: "e"}, {Key: "f"}}
		ac := node(b, la, lc)
		rows := []struct {
			n    int
			over string
		}{
			{0, ""}, {1, la}, {2, ac}, {3, node(b, ac, ld)}, {4, node(b, ac, node(b, ld, le))}, {5, node(b, node(b, ac, node(b, ld, le)), lf)},
		}
		for _, r := range rows {
			if got := root(t, b, l[:r.n]); got != b.Digest("R"+string([]byte{byte(r.n)})+laid(r.over)) {
				t.Errorf("%s: the root of %d is %x", name, r.n, got)
			}
		}
		if root(t, b, []api.Record{}) != b.Digest("R\x00\x00") || root(t, b, nil) != b.Digest("R\x00\x00") {
			t.Errorf("%s: the root of none", name)
		}
	}
}

// 4.1
func TestRootOfMany(t *testing.T) {
	for name, b := range books(t) {
		for n := range 140 {
			l := recordsOf(n)
			if root(t, b, l) != rootBy(b, l) {
				t.Errorf("%s: the root of %d", name, n)
			}
		}
		for _, n := range []int{255, 256, 257, 1000, 2047, 2048, 2049, 4095, 4096} {
			l := recordsOf(n)
			if root(t, b, l) != rootBy(b, l) {
				t.Errorf("%s: the root of %d", name, n)
			}
		}
	}
}

// great are records that are together more than one text takes, each at its most.
func great() []api.Record {
	var l []api.Record
	for i := range 300 {
		l = append(l, api.Record{Key: keyOf(i) + strings.Repeat("k", 61), Value: strings.Repeat("v", 4096)})
	}
	return l
}

// 4.1: keys and values at their most, and more bytes than a text has.
func TestRootAtTheMost(t *testing.T) {
	b := authn.NewBook()
	l := great()
	if root(t, b, l) != rootBy(b, l) {
		t.Error("the root of 300 great records")
	}
	one := []api.Record{{Key: "\x00", Value: strings.Repeat("\xff", 127)}, {Key: "\x00\x00", Value: strings.Repeat("\x00", 128)}, {Key: "\xff"}}
	if root(t, b, one) != rootBy(b, one) {
		t.Error("the root of other bytes")
	}
}

// wrongRecords are lists that may not be, by the error that is told of them.
func wrongRecords() []struct {
	name string
	l    []api.Record
	want api.Errno
} {
	with := func(n, i int, x api.Record) []api.Record {
		l := recordsOf(n)
		l[i] = x
		return l
	}
	return []struct {
		name string
		l    []api.Record
		want api.Errno
	}{
		{"4097", recordsOf(4097), api.ErrFull},
		{"4097, the first without a key", with(4097, 0, api.Record{}), api.ErrFull},
		{"4097, two alike", with(4097, 1, api.Record{Key: keyOf(0)}), api.ErrFull},
		{"no key", []api.Record{{}}, api.ErrField},
		{"no key, the last", with(5, 4, api.Record{Value: "v"}), api.ErrField},
		{"a key of 65", []api.Record{{Key: strings.Repeat("k", 65)}}, api.ErrField},
		{"a value of 4097", []api.Record{{Key: "a", Value: strings.Repeat("v", 4097)}}, api.ErrField},
		{"two alike", []api.Record{{Key: "a"}, {Key: "a"}}, api.ErrOrder},
		{"falling", []api.Record{{Key: "b"}, {Key: "a"}}, api.ErrOrder},
		{"a longer one ahead", []api.Record{{Key: "aa"}, {Key: "a"}}, api.ErrOrder},
		{"by bytes, not by letters", []api.Record{{Key: "a"}, {Key: "B"}}, api.ErrOrder},
		{"by bytes without a sign", []api.Record{{Key: "\xff"}, {Key: "\x7f"}}, api.ErrOrder},
		{"the last two of 4096", with(4096, 4095, api.Record{Key: keyOf(4094)}), api.ErrOrder},
		{"an order, then a field", []api.Record{{Key: "b"}, {Key: "a"}, {}}, api.ErrOrder},
		{"a field, then an order", []api.Record{{Key: "b"}, {}, {Key: "a"}}, api.ErrField},
		{"a field and an order at once", []api.Record{{Key: "b"}, {Key: "a", Value: strings.Repeat("v", 4097)}}, api.ErrField},
		{"an order behind great ones", append(great(), api.Record{Key: "a"}), api.ErrOrder},
	}
}

// 4.1
func TestRootRefuses(t *testing.T) {
	for _, r := range wrongRecords() {
		for name, b := range books(t) {
			if got, e := merkle.Root(b, r.l); got != "" || e != r.want {
				t.Errorf("%s, %s: %x, %d; want %d", name, r.name, got, e, r.want)
			}
		}
		quiet(t, r.name, func(b *authn.Book) { merkle.Root(b, r.l) })
		for _, b := range []*authn.Book{nil, {}} {
			if got, e := merkle.Root(b, r.l); got != "" || e != api.ErrArg {
				t.Errorf("no book, %s: %x, %d", r.name, got, e)
			}
		}
	}
	for _, b := range []*authn.Book{nil, {}} {
		for n := range 4 {
			if got, e := merkle.Root(b, recordsOf(n)); got != "" || e != api.ErrArg {
				t.Errorf("no book, %d records: %x, %d", n, got, e)
			}
		}
	}
}

// 4.6: all lists of at most three records with keys and values of few letters, among them such as differ in where a key ends alone.
func TestUnlikeRootsOfFew(t *testing.T) {
	keys, values := []string{"a", "aa", "ab", "b"}, []string{"", "a", "b", "ab", "\x00", "\x01a"}
	var lists [][]api.Record
	var fill func(l []api.Record, from int)
	fill = func(l []api.Record, from int) {
		lists = append(lists, slices.Clone(l))
		for i := from; i < len(keys) && len(l) < 3; i++ {
			for _, v := range values {
				fill(append(l, api.Record{Key: keys[i], Value: v}), i+1)
			}
		}
	}
	fill(nil, 0)
	b, seen := authn.NewBook(), map[string]int{}
	for i, l := range lists {
		r := root(t, b, l)
		if j, ok := seen[r]; ok {
			t.Fatalf("%v and %v have one root", lists[j], l)
		}
		seen[r] = i
		if root(t, b, l) != r {
			t.Fatalf("%v has two roots", l)
		}
	}
}

// 4.6: what stands over leaves, told as a record, is no such record; a beginning of records is not they; one that changed neither.
func TestUnlikeRootsOfMany(t *testing.T) {
	b, seen := authn.NewBook(), map[string]string{}
	add := func(name string, l []api.Record) {
		t.Helper()
		r := root(t, b, l)
		if other, ok := seen[r]; ok {
			t.Errorf("%s and %s have one root", name, other)
		}
		seen[r] = name
	}
	for n := range 70 {
		add("beginning", recordsOf(n))
		for i := range n {
			l := recordsOf(n)
			l[i].Value += "x"
			add("a value", l)
			l = recordsOf(n)
			l[i].Key += "x"
			add("a key", l)
			if n > 1 && i < n-1 {
				add("one less", slices.Delete(recordsOf(n), i, i+1))
			}
		}
	}
	add("digests as a record", []api.Record{{Key: leaf(b, keyOf(0), "v\x00"), Value: leaf(b, keyOf(1), "v\x01")}})
}

// R3: what is handed in is as it was, and so is what lies behind its end.
func TestListsStayAsTheyAre(t *testing.T) {
	b := authn.NewBook()
	l := recordsOf(9)
	before := slices.Clone(l)
	root(t, b, l[:5])
	p := prove(t, b, l[:5], keyOf(3)+"x")
	if !slices.Equal(l, before) {
		t.Error("the records changed")
	}
	behind := append(slices.Clone(p.Paths[0].Sides), "behind")
	sides := slices.Clone(behind)
	p.Paths[0].Sides = behind[:len(behind)-1]
	wantVerify(t, "with more behind", b, root(t, b, l[:5]), keyOf(3)+"x", p, "", false, api.OK)
	if !slices.Equal(behind, sides) {
		t.Error("the sides changed")
	}
	l[0].Value = "other"
	if root(t, b, before) == root(t, b, l) {
		t.Error("a list was kept")
	}
}
