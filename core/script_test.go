package core_test

import (
	"slices"

	"gavel/api"
	"gavel/house"
	"gavel/wire"
)

// step does one step of a script: what the network, time, clients and liars do.
func (x *world) step() {
	x.t.Helper()
	kinds := 26
	if x.liars() > 0 {
		kinds = 36
	}
	if x.dice(150) == 0 {
		x.asleep = x.dice(x.n+2) - 2 // with two more that are nobody
	}
	k := x.dice(kinds)
	switch {
	case k < 16 && len(x.net) > 0:
		at := 0
		if x.dice(2) == 0 {
			at = x.dice(len(x.net))
		}
		s := x.take(at)
		x.deliver(s)
		if x.dice(12) == 0 {
			x.onceMore(s)
		}
	case k < 18 && len(x.net) > 0:
		x.take(x.dice(len(x.net)))
	case k < 19 && len(x.net) > 0:
		s := x.net[x.dice(len(x.net))]
		x.post(s.to, s.bytes)
	case k < 20:
		x.cutOff(x.dice(x.n))
	case k < 21:
		x.tick(x.dice(x.n))
	case k < 23:
		for i := range x.n {
			x.tick(i)
		}
	case k < 24:
		x.sweep()
	case k < 26:
		x.someRequest()
	case k >= 26:
		x.lie()
	}
}

func (x *world) liars() int { return x.n - len(x.honest()) }

// onceMore (11.3): a message that comes once more at once changes nothing but the drops.
func (x *world) onceMore(s mail) {
	x.t.Helper()
	r := x.all[s.to]
	if x.liar[s.to] && x.mute || s.to == x.asleep {
		return
	}
	before, drops := pictureOf(r), r.Drops()
	out := r.Receive(s.bytes)
	if after := pictureOf(r); after != before {
		x.t.Fatalf("%+v once more: %+v, then %+v", x.opened(s.bytes), before, after)
	}
	if r.Drops() == drops+1 && len(out) > 0 || r.Drops() < drops || r.Drops() > drops+1 {
		x.t.Fatalf("%+v once more: %d drops, then %d, and %v", x.opened(s.bytes), drops, r.Drops(), out)
	}
	x.went(s.to, out)
}

// cutOff loses all that is on its way to one.
func (x *world) cutOff(to int) {
	x.net = slices.DeleteFunc(x.net, func(s mail) bool { return s.to == to })
}

// someRequest is a client's next request, or an older one again, to some.
func (x *world) someRequest() {
	x.t.Helper()
	client := x.dice(x.c.Clients)
	if x.stamps[client] == 0 || x.dice(3) > 0 {
		x.stamps[client]++
	}
	stamp := x.stamps[client]
	if x.dice(8) == 0 {
		stamp = 1 + x.dice(stamp)
	}
	m := x.ask(client, stamp)
	if x.dice(4) == 0 {
		m = x.askFor(client, stamp, x.someOp())
	}
	for i := range x.n {
		if x.dice(5) > 0 {
			x.post(i, laid(x.t, m))
		}
	}
}

// someOp is what a client might ask of the house.
func (x *world) someOp() string {
	l := []api.Op{
		{Kind: house.Tick},
		{Kind: house.Take, Amount: 1 + x.dice(30)},
		{Kind: house.Store, Amount: 1 + x.dice(9)},
		{Kind: house.Offer, Amount: 1 + x.dice(4), Price: 0.125, Side: 1},
		{Kind: house.Want, Amount: 1 + x.dice(4)},
		{Kind: house.Put, Id: x.dice(4), Side: x.dice(2), Amount: 1 + x.dice(3), Price: 0.125 * float64(1+x.dice(3))},
		{Kind: house.Cancel, Id: x.dice(4)},
	}
	if x.dice(9) == 0 {
		return "no op"
	}
	return op(x.t, l[x.dice(len(l))])
}

// lie lets a liar say something to some.
func (x *world) lie() {
	x.t.Helper()
	var liars []int
	for i, lies := range x.liar {
		if lies {
			liars = append(liars, i)
		}
	}
	who := liars[x.dice(len(liars))]
	s := x.someLie(who)
	if s == "" {
		return
	}
	for _, i := range x.honest() {
		if x.dice(3) > 0 {
			x.post(i, s)
		}
	}
}

// some is one of a list that fits; false, if none does.
func (x *world) some(fits func(spoken) bool) (spoken, bool) {
	var l []spoken
	for _, o := range x.seen {
		if fits(o) {
			l = append(l, o)
		}
	}
	if len(l) == 0 {
		return spoken{}, false
	}
	// The later ones are of more use.
	if len(l) > 12 && x.dice(3) > 0 {
		l = l[len(l)-12:]
	}
	return l[x.dice(len(l))], true
}

// someLie are a liar's bytes, none if it finds nothing to say.
func (x *world) someLie(who int) string {
	x.t.Helper()
	var b api.Body
	switch x.dice(12) {
	case 0, 1:
		b = x.lieOfProposal(who)
	case 2, 3:
		b = x.lieOfVote()
	case 4:
		b = x.lieOfCheck()
	case 5, 6:
		b = x.lieOfWish()
	case 7, 8:
		b = x.lieOfBegin(who)
	case 9:
		b = x.lieOfKept()
	case 10:
		b = x.lieOfState()
	default:
		return x.forged()
	}
	m, e := x.book.Seal(who, b)
	if e != api.OK {
		return ""
	}
	x.note(m)
	return laid(x.t, m)
}

// place is a view and a number near to where somebody is.
func (x *world) place() (view, seq int) {
	l := x.honest()
	r := x.all[l[x.dice(len(l))]]
	view, _ = r.View()
	return max(0, view+x.dice(3)-1), r.Done() + x.dice(4)
}

func (x *world) someBatch() []api.Signed {
	var l []api.Signed
	for range x.dice(4) {
		if o, ok := x.some(func(o spoken) bool { return o.b.Kind == api.KindRequest }); ok {
			l = append(l, o.m)
		}
	}
	return l
}

func (x *world) lieOfProposal(who int) api.Body {
	view, seq := x.place()
	for x.dice(4) > 0 && view%x.n != who {
		view++
	}
	return api.Body{Kind: api.KindPropose, View: view, Seq: seq, List: x.someBatch()}
}

// lieOfVote votes for whatever somebody else voted for, or proposed.
func (x *world) lieOfVote() api.Body {
	kind := api.KindPrepare + x.dice(2)
	if x.dice(2) == 0 {
		if o, ok := x.some(func(o spoken) bool { return o.b.Kind == api.KindPropose }); ok {
			_, digest := x.batch(o.b.List...)
			return api.Body{Kind: kind, View: o.b.View, Seq: o.b.Seq, Digest: digest}
		}
	}
	o, ok := x.some(func(o spoken) bool { return o.b.Kind == api.KindPrepare || o.b.Kind == api.KindCommit })
	if !ok {
		return api.Body{}
	}
	b := o.b
	b.Kind = kind
	if x.dice(5) == 0 {
		_, b.Digest = x.batch(x.someBatch()...)
	}
	if x.dice(9) == 0 {
		b.View++
	}
	return b
}

func (x *world) lieOfCheck() api.Body {
	if o, ok := x.some(func(o spoken) bool { return o.b.Kind == api.KindCheck }); ok && x.dice(3) > 0 {
		return o.b
	}
	return api.Body{Kind: api.KindCheck, Seq: 4 * (1 + x.dice(4)), Digest: x.book.Digest("lie")}
}

// signers are the messages by which whoever said a thing, one of each.
func (x *world) signers(kind, view, seq int, digest string) []api.Signed {
	var l []api.Signed
	for who := range x.n {
		at := slices.IndexFunc(x.seen, func(o spoken) bool {
			return o.m.From == who && o.b.Kind == kind && o.b.View == view && o.b.Seq == seq && o.b.Digest == digest
		})
		if at >= 0 {
			l = append(l, x.seen[at].m)
		}
	}
	return l
}

// batchOf is the batch of a digest, if it was proposed.
func (x *world) batchOf(digest string) string {
	none, of := x.batch()
	if of == digest {
		return none
	}
	for _, o := range x.seen {
		if o.b.Kind == api.KindPropose {
			if text, of := x.batch(o.b.List...); of == digest {
				return text
			}
		}
	}
	return none
}

// lieOfWish is a wish with proofs that the liar picks, and now and then with wrong ones.
func (x *world) lieOfWish() api.Body {
	view, _ := x.place()
	b := api.Body{Kind: api.KindChange, View: max(1, view+x.dice(2))}
	if o, ok := x.some(func(o spoken) bool { return o.b.Kind == api.KindCheck }); ok && x.dice(2) == 0 {
		if l := x.signers(api.KindCheck, 0, o.b.Seq, o.b.Digest); len(l) >= x.quorum() || x.dice(6) == 0 {
			b.Seq, b.List = o.b.Seq, l
		}
	}
	for seq := b.Seq + 1; seq <= b.Seq+8; seq++ {
		o, ok := x.some(func(o spoken) bool { return o.b.Kind == api.KindPrepare && o.b.Seq == seq })
		if !ok || x.dice(3) == 0 {
			continue
		}
		l := x.signers(api.KindPrepare, o.b.View, seq, o.b.Digest)
		if len(l) < x.quorum() && x.dice(9) > 0 {
			continue
		}
		p := api.Body{Kind: api.KindKept, View: o.b.View, Seq: seq, Digest: o.b.Digest, Text: x.batchOf(o.b.Digest), List: l}
		if s, e := wire.Bytes(p); e == api.OK {
			b.List = append(b.List, api.Signed{Body: s})
		}
	}
	return b
}

// lieOfBegin begins a view that the liar leads with wishes that it picks.
func (x *world) lieOfBegin(who int) api.Body {
	o, ok := x.some(func(o spoken) bool { return o.b.Kind == api.KindChange && o.b.View%x.n == who })
	if !ok {
		return api.Body{}
	}
	b := api.Body{Kind: api.KindBegin, View: o.b.View}
	skip := x.dice(x.n)
	for from := range x.n {
		w, ok := x.some(func(o spoken) bool {
			return o.b.Kind == api.KindChange && o.b.View == b.View && o.m.From == from
		})
		if ok && (from != skip || x.dice(3) == 0) {
			b.List = append(b.List, w.m)
		}
	}
	return b
}

func (x *world) lieOfKept() api.Body {
	o, ok := x.some(func(o spoken) bool { return o.b.Kind == api.KindCommit })
	if !ok {
		return api.Body{}
	}
	b := o.b
	b.Kind, b.Text, b.List = api.KindKept, x.batchOf(b.Digest), x.signers(api.KindCommit, b.View, b.Seq, b.Digest)
	if x.dice(4) == 0 {
		b.Text, _ = x.batch(x.someBatch()...)
	}
	return b
}

func (x *world) lieOfState() api.Body {
	if x.dice(3) == 0 {
		view, seq := x.place()
		return api.Body{Kind: api.KindStatus, View: view, Seq: seq, Client: x.dice(2), Stamp: 4 * x.dice(3)}
	}
	o, ok := x.some(func(o spoken) bool { return o.b.Kind == api.KindCheck })
	if !ok {
		return api.Body{}
	}
	b := o.b
	l := x.honest()
	text, e := wire.PutRecords(x.all[l[x.dice(len(l))]].Records())
	if e != api.OK {
		x.t.Fatal(e)
	}
	b.Kind, b.Text, b.List = api.KindState, text, x.signers(api.KindCheck, 0, b.Seq, b.Digest)
	return b
}

// forged are bytes that somebody else said, as they were or spoiled.
func (x *world) forged() string {
	o, ok := x.some(func(spoken) bool { return true })
	if !ok {
		return "x"
	}
	s := laid(x.t, o.m)
	switch x.dice(4) {
	case 0:
		o.m.From = x.dice(x.n)
		return laid(x.t, o.m)
	case 1:
		at := x.dice(len(s))
		return s[:at] + string([]byte{s[at] ^ byte(1<<x.dice(8))}) + s[at+1:]
	}
	return s
}
