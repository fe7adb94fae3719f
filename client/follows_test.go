package client_test

import (
	"fmt"
	"slices"
	"testing"

	"gavel/api"
	"gavel/authn"
	"gavel/client"
	"gavel/core"
	"gavel/house"
	"gavel/wire"
)

// consortium is replicas and clients with all mail delivered in its order.
type consortium struct {
	t       *testing.T
	c       api.Config
	b       *authn.Book
	all     []*core.Replica
	clients []*client.Client
	net     []api.Sent
	proofs  []string // what was sent to client 0 and is no reply that it takes
	muted   int      // the first ones take and say nothing
}

func newConsortium(t *testing.T, f, muted int, b *authn.Book) *consortium {
	t.Helper()
	x := &consortium{t: t, c: ofFaults(f), b: b, muted: muted}
	for i := range 3*f + 1 {
		r, e := core.New(x.c, i, b)
		if e != api.OK {
			t.Fatal(e)
		}
		x.all = append(x.all, r)
	}
	for k := range x.c.Clients {
		x.clients = append(x.clients, newClient(t, x.c, k, b))
	}
	return x
}

// run delivers until nothing is on its way.
func (x *consortium) run() {
	for len(x.net) > 0 {
		m := x.net[0]
		x.net = x.net[1:]
		switch k := m.To - api.FirstClient; {
		case k >= 0:
			if !x.clients[k].Receive(m.Bytes) && k == 0 {
				x.proofs = append(x.proofs, m.Bytes)
			}
		case m.To >= x.muted:
			x.net = append(x.net, x.all[m.To].Receive(m.Bytes)...)
		}
	}
}

// tick lets time go on for all, and delivers.
func (x *consortium) tick() {
	for _, r := range x.all[x.muted:] {
		x.net = append(x.net, r.Tick()...)
	}
	for _, k := range x.clients {
		x.net = append(x.net, k.Tick()...)
	}
	x.run()
}

// do lets a client ask, liars answer first, and time go on until there is an answer.
func (x *consortium) do(k int, o api.Op, lie string) {
	x.t.Helper()
	op, e := wire.PutOp(o)
	if e != api.OK {
		x.t.Fatal(e)
	}
	x.net = append(x.net, request(x.t, x.clients[k], op)...)
	stamp := len(x.clients[k].Answers()) + 1
	for i := range x.c.Faults {
		if !x.clients[k].Receive(reply(x.t, x.b, i, k, stamp, lie)) {
			x.t.Fatalf("the lie of %d is not taken", i)
		}
	}
	x.run()
	for i := 0; x.clients[k].Waits(); i++ {
		if i > 300 {
			x.t.Fatalf("no answer to client %d", k)
		}
		x.tick()
	}
}

// What follows: whatever f replicas say, first and alike, the answers are the house's.
func TestAnswersAreTheHouses(t *testing.T) {
	for name, b := range bothBooks(t) {
		for f := 1; f <= 4; f++ {
			x := newConsortium(t, f, f, b)
			h, _ := house.New(x.c.Clients, x.c.Goods)
			dice := chance(uint32(f))
			want := make([][]client.Answer, x.c.Clients)
			for range 12 {
				k := dice(x.c.Clients)
				o := api.Op{Kind: house.Pay + dice(2), Amount: dice(9)}
				op, _ := wire.PutOp(o)
				stamp := len(want[k]) + 1
				text, e := h.Do(k, stamp, op)
				if e != api.OK {
					t.Fatal(e)
				}
				want[k] = append(want[k], client.Answer{Stamp: stamp, Text: text})
				x.do(k, o, "\x00\x07")
				wantStand(t, fmt.Sprintf("%s, f %d, client %d", name, f, k), x.clients[k], false, want[k]...)
			}
		}
	}
}

// valueAt is what records have at a key.
func valueAt(l []api.Record, key string) (string, bool) {
	i := slices.IndexFunc(l, func(r api.Record) bool { return r.Key == key })
	if i < 0 {
		return "", false
	}
	return l[i].Value, true
}

// G3: each proof that replicas make of their stable state is taken, and shows what there is.
func TestProofsOfReplicas(t *testing.T) {
	for name, b := range bothBooks(t) {
		for f := 1; f <= 4; f++ {
			x := newConsortium(t, f, 0, b)
			for seq := 4; seq <= 12; seq += 4 {
				for range 4 {
					x.do(1, api.Op{Kind: house.Pay, Amount: seq}, "\x00\x07")
				}
				x.run()
				l := x.all[3*f].Records()
				if x.all[3*f].Low() != seq {
					t.Fatalf("%s, f %d: %d is stable, want %d", name, f, x.all[3*f].Low(), seq)
				}
				keys := []string{"\x00", "b", "none", "zz"}
				for _, r := range l {
					keys = append(keys, r.Key)
				}
				for _, key := range keys {
					x.proofs = nil
					sent, e := x.clients[0].Ask(key)
					if e != api.OK {
						t.Fatal(e)
					}
					x.net = append(x.net, sent...)
					x.run()
					wantProofs(t, fmt.Sprintf("%s, f %d", name, f), x, key, seq, l)
				}
			}
		}
	}
}

// wantProofs: all replicas sent a proof of a key, and each one shows what records have at it.
func wantProofs(t *testing.T, what string, x *consortium, key string, seq int, l []api.Record) {
	t.Helper()
	if len(x.proofs) != len(x.all) {
		t.Errorf("%s: %d proofs of %q", what, len(x.proofs), key)
	}
	value, has := valueAt(l, key)
	want := client.Light{Seq: seq, Value: value, Has: has}
	for _, s := range x.proofs {
		if got, e := client.Verify(x.c, x.b, key, s); got != want || e != api.OK {
			t.Errorf("%s: Verify(%q) = %+v, %d, want %+v", what, key, got, e, want)
		}
	}
}

// G3: whatever number, root and proof are put together, with f liars who sign anything and others who sign what is so, what is taken is so in the state of its number.
func TestVerifyIsSound(t *testing.T) {
	b := authn.NewBook()
	c := ofFaults(1)
	states := [][]api.Record{
		{},
		{{Key: "a", Value: "1"}},
		{{Key: "a", Value: "2"}},
		{{Key: "a", Value: "1"}, {Key: "c", Value: "3"}},
		{{Key: "a", Value: "1"}, {Key: "b", Value: "2"}, {Key: "c", Value: "3"}},
		{{Key: "b", Value: "2"}, {Key: "c", Value: "3"}, {Key: "d", Value: "4"}, {Key: "e", Value: "5"}},
	}
	keys := []string{"0", "a", "aa", "b", "c", "d", "e", "f"}
	seq := func(i int) int { return 4 * (i + 1) }
	taken := 0
	for i := range states { // the number that is claimed
		for j := range states { // whose root is claimed
			root := rootOf(t, b, states[j])
			list := checks(t, b, seq(i), root, 0) // the liar signs it
			list = append(list, checks(t, b, seq(i), rootOf(t, b, states[i]), 1)...)
			list = append(list, checks(t, b, seq(j), root, 2, 3)...)
			for k := range states { // whose proof is shown
				for _, shows := range keys {
					text := proofOf(t, b, states[k], shows)
					s := bytesBy(t, b, 0, api.Body{Kind: api.KindProof, Seq: seq(i), Digest: root, Text: text, List: list})
					for _, key := range keys {
						got, e := client.Verify(c, b, key, s)
						value, has := valueAt(states[i], key)
						if want := (client.Light{Seq: seq(i), Value: value, Has: has}); e == api.OK && got != want {
							t.Errorf("number %d, root of %d, proof of %d for %q: %q is shown as %+v, want %+v", i, j, k, shows, key, got, want)
						}
						if e == api.OK {
							taken++
						} else if got != (client.Light{}) || i == j && j == k && shows == key {
							t.Errorf("number %d, root of %d, proof of %d for %q: Verify(%q) = %+v, %d", i, j, k, shows, key, got, e)
						}
					}
				}
			}
		}
	}
	if taken < len(states)*len(keys) {
		t.Errorf("only %d were taken", taken)
	}
}
