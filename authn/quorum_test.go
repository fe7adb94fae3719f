package authn_test

import (
	"math"
	"slices"
	"testing"

	"gavel/api"
	"gavel/authn"
)

func wantQuorum(t *testing.T, what string, b *authn.Book, l []api.Signed, x api.Body, below, want int) {
	t.Helper()
	if n := b.Quorum(l, x.Kind, x.View, x.Seq, x.Digest, below); n != want {
		t.Errorf("%s: Quorum = %d, want %d", what, n, want)
	}
}

// 3.6
func TestQuorumCountsSigners(t *testing.T) {
	for name, b := range bothBooks(t) {
		m := seal(t, b, 2, prepare)
		l := []api.Signed{m, m}
		wantQuorum(t, name+": none", b, nil, prepare, 4, 0)
		wantQuorum(t, name+": empty", b, []api.Signed{}, prepare, 4, 0)
		wantQuorum(t, name+": one, twice", b, l, prepare, 4, 1)
		for who := range 4 {
			l = append(l, seal(t, b, who, prepare))
		}
		wantQuorum(t, name+": all, one thrice", b, l, prepare, 4, 4)
		slices.Reverse(l)
		wantQuorum(t, name+": from behind", b, l, prepare, 4, 4)
		kept := slices.Clone(l)
		wantQuorum(t, name+": again", b, l[:3], prepare, 4, 3)
		if !slices.Equal(l, kept) {
			t.Errorf("%s: the list is changed", name)
		}
	}
}

// 3.6: signers from 0 to below - 1, and none else.
func TestQuorumBelow(t *testing.T) {
	for name, b := range bothBooks(t) {
		var l []api.Signed
		for who := range 4 {
			l = append(l, seal(t, b, who, prepare))
		}
		for _, below := range []int{math.MinInt, -1, 0, 1, 2, 3, 4, 5, 255, 256, 257, 1000, math.MaxInt} {
			wantQuorum(t, name, b, l, prepare, below, min(max(below, 0), 4))
		}
	}
}

// 3.6: of all signers that there can be.
func TestQuorumOfAll(t *testing.T) {
	for _, b := range []*authn.Book{authn.NewBook(), keyed(t, secretsOf(256)...)} {
		var l []api.Signed
		for who := 255; who >= 0; who-- {
			m := seal(t, b, who, prepare)
			l = append(l, m, m)
		}
		for _, below := range []int{0, 1, 100, 254, 255, 256, 257, math.MaxInt} {
			wantQuorum(t, "of 256", b, l, prepare, below, min(below, 256))
		}
		wantQuorum(t, "255 alone", b, l[:2], prepare, 256, 1)
		wantQuorum(t, "255 alone, below it", b, l[:2], prepare, 255, 0)
	}
}

// 3.6: a body with another kind, view, seq or digest is not counted.
func TestQuorumOfUnlikeBodies(t *testing.T) {
	unlike := []api.Body{
		{Kind: api.KindCommit, View: 1, Seq: 300, Digest: "d"},
		{Kind: api.KindPrepare, View: 2, Seq: 300, Digest: "d"}, {Kind: api.KindPrepare, Seq: 300, Digest: "d"},
		{Kind: api.KindPrepare, View: 1, Seq: 301, Digest: "d"}, {Kind: api.KindPrepare, View: 1, Seq: 299, Digest: "d"},
		{Kind: api.KindPrepare, View: 1, Seq: 300, Digest: "e"}, {Kind: api.KindPrepare, View: 1, Seq: 300, Digest: "d\x00"},
	}
	for name, b := range bothBooks(t) {
		for i, x := range unlike {
			l := []api.Signed{seal(t, b, 0, x), seal(t, b, 1, prepare), seal(t, b, 2, x), seal(t, b, 3, x)}
			wantQuorum(t, name, b, l, prepare, 4, 1)
			wantQuorum(t, name, b, l, x, 4, 3)
			// Who says two things is counted for each of them.
			l = append(l, seal(t, b, 0, prepare))
			wantQuorum(t, name, b, l, prepare, 4, 2)
			wantQuorum(t, name, b, l, x, 4, 3)
			if n := b.Quorum(l, -1, 1, 300, "d", 4); n != 0 {
				t.Errorf("%s, row %d: %d of no kind", name, i, n)
			}
		}
	}
}

// 3.6: fields that are not asked for may be as they like.
func TestQuorumPassesOverOtherFields(t *testing.T) {
	for name, b := range bothBooks(t) {
		l := []api.Signed{
			seal(t, b, 0, api.Body{Kind: api.KindReply, View: 3, Client: 1, Stamp: 9, Text: "a"}),
			seal(t, b, 1, api.Body{Kind: api.KindReply, View: 3, Client: 2, Stamp: 8, Text: "b"}),
			seal(t, b, 1, api.Body{Kind: api.KindReply, View: 3, Client: 5, Stamp: 7}),
			seal(t, b, 2, api.Body{Kind: api.KindReply, View: 4, Client: 1, Stamp: 9, Text: "a"}),
		}
		wantQuorum(t, name, b, l, api.Body{Kind: api.KindReply, View: 3}, 4, 2)
	}
}

// 3.6: what Open does not take is not counted, and keeps nobody from being counted.
func TestQuorumOfForgeries(t *testing.T) {
	for name, b := range bothBooks(t) {
		m := seal(t, b, 1, prepare)
		commit := prepare
		commit.Kind = api.KindCommit
		other := seal(t, b, 2, commit)
		noBody := "\x03\x00\x00\x00\x00\x00\x01d\x00"
		l := []api.Signed{
			{From: 0, Body: m.Body, Sig: m.Sig}, {From: 2, Body: m.Body, Sig: m.Sig}, {From: 3, Body: m.Body}, {},
			{From: 2, Body: m.Body, Sig: other.Sig}, {From: 1, Body: m.Body, Sig: m.Sig + "\x00"},
			{From: -1, Body: m.Body, Sig: m.Sig}, {From: 256, Body: m.Body, Sig: m.Sig}, {From: math.MinInt, Body: m.Body, Sig: m.Sig},
			{From: 3, Body: noBody, Sig: sign(t, b, 3, noBody)},
			{From: 3, Body: m.Body + "\x00", Sig: sign(t, b, 3, m.Body+"\x00")},
		}
		wantQuorum(t, name+": forged", b, l, prepare, 300, 0)
		wantQuorum(t, name+": nobody's", b, l, api.Body{}, 300, 0)
		l = append(l, m, seal(t, b, 3, prepare))
		wantQuorum(t, name+": and two", b, l, prepare, 300, 2)
		if n := b.Quorum(l, api.KindPrepare, 0, 0, "d", 300); n != 0 {
			t.Errorf("%s: %d of a body that may not be", name, n)
		}
	}
}

// 3.6, R4: a count leaves nothing behind in a book that numbers.
func TestQuorumNumbersNothing(t *testing.T) {
	b := authn.NewBook()
	other := authn.NewBook()
	m := seal(t, other, 1, prepare)
	wantQuorum(t, "another book's", b, []api.Signed{m, m}, prepare, 4, 0)
	wantOpen(t, "another book's", b, m, api.Body{}, api.ErrSig)
	if b.Issued(1, m.Body) || b.Digest("x") != number(1) {
		t.Error("a count left something behind")
	}
	wantSign(t, b, 0, "y", "s"+number(1), api.OK)
}
