package merkle

import (
	"slices"
	"sort"
	"strings"

	"gavel/api"
	"gavel/authn"
	"gavel/wire"
)

// Tree is records that change, and their leaves' digests. One that New did not give has no book, and takes nothing.
type Tree struct {
	book    *authn.Book
	records []api.Record // rising
	leaves  []string     // of the records, one by one
}

// New is a tree without records; nil, if there is no book.
func New(b *authn.Book) *Tree {
	if !isBook(b) {
		return nil
	}
	return &Tree{book: b}
}

// over is a tree over records that may be. It is for the one call that it is made in, since it has the caller's list.
func over(b *authn.Book, l []api.Record) *Tree {
	t := &Tree{book: b, records: l}
	for _, x := range l {
		t.leaves = append(t.leaves, leafOf(b, x))
	}
	return t
}

func (t *Tree) made() bool { return t != nil && t.book != nil }

// Put lays a value at a key.
func (t *Tree) Put(key, value string) api.Errno {
	if !t.made() {
		return api.ErrArg
	}
	if _, e := wire.PutRecords([]api.Record{{Key: key, Value: value}}); e != api.OK {
		return e
	}
	i, has := t.find(key)
	if !has && len(t.records) >= api.MaxRecords {
		return api.ErrFull
	}
	x := api.Record{Key: strings.Clone(key), Value: strings.Clone(value)}
	leaf := leafOf(t.book, x)
	if has {
		t.records[i], t.leaves[i] = x, leaf
		return api.OK
	}
	t.records = slices.Insert(t.records, i, x)
	t.leaves = slices.Insert(t.leaves, i, leaf)
	return api.OK
}

// Drop takes a key away.
func (t *Tree) Drop(key string) bool {
	if !t.made() {
		return false
	}
	i, has := t.find(key)
	if has {
		t.records = slices.Delete(t.records, i, i+1)
		t.leaves = slices.Delete(t.leaves, i, i+1)
	}
	return has
}

// Get is the value at a key.
func (t *Tree) Get(key string) (string, bool) {
	if !t.made() {
		return "", false
	}
	i, has := t.find(key)
	if !has {
		return "", false
	}
	return t.records[i].Value, true
}

// Root is the root of all records.
func (t *Tree) Root() string {
	if !t.made() {
		return ""
	}
	return t.root()
}

// Records are all records, rising.
func (t *Tree) Records() []api.Record {
	if !t.made() {
		return nil
	}
	return slices.Clone(t.records)
}

// Prove is the proof of what there is at a key.
func (t *Tree) Prove(key string) (api.Proof, api.Errno) {
	if !t.made() {
		return api.Proof{}, api.ErrArg
	}
	if !isKey(key) {
		return api.Proof{}, api.ErrField
	}
	return t.prove(key), api.OK
}

// find is the place of the first record whose key is not below, and whether that is the key's own.
func (t *Tree) find(key string) (int, bool) {
	i := sort.Search(len(t.records), func(i int) bool { return t.records[i].Key >= key })
	return i, i < len(t.records) && t.records[i].Key == key
}

func (t *Tree) root() string {
	return rootOf(t.book, len(t.leaves), topOf(t.book, t.leaves))
}

func (t *Tree) prove(key string) api.Proof {
	p := api.Proof{Count: len(t.records)}
	i, has := t.find(key)
	if has {
		p.Paths = []api.Path{t.path(i)}
		return p
	}
	if i > 0 {
		p.Paths = append(p.Paths, t.path(i-1))
	}
	if i < len(t.records) {
		p.Paths = append(p.Paths, t.path(i))
	}
	return p
}

func (t *Tree) path(i int) api.Path {
	x := t.records[i]
	return api.Path{Index: i, Key: strings.Clone(x.Key), Value: strings.Clone(x.Value), Sides: sidesOf(t.book, t.leaves, i)}
}
