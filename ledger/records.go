package ledger

import (
	"strconv"
	"strings"

	"gavel/api"
	"gavel/wire"
)

// Records are the accounts as records, by their keys.
func (x *Ledger) Records() []api.Record {
	if !x.made() {
		return nil
	}
	var l []api.Record
	for who, k := range x.clients {
		l = append(l, api.Record{Key: keyOf(who), Value: valueOf(k, x.goods)})
	}
	return l
}

// Of is the ledger of accounts' records.
func Of(clients, goods int, l []api.Record) (*Ledger, api.Errno) {
	x, e := New(clients, goods)
	if e != api.OK {
		return nil, e
	}
	if len(l) != clients {
		return nil, api.ErrState
	}
	for who, r := range l {
		k, ok := keptOf(r.Value, goods)
		if !ok || !k.sound() || r.Key != keyOf(who) {
			return nil, api.ErrState
		}
		x.clients[who] = k
	}
	if x.over() {
		return nil, api.ErrState
	}
	return x, api.OK
}

func keyOf(who int) string {
	return "acct/" + strconv.Itoa(who/10) + strconv.Itoa(who%10)
}

func valueOf(k kept, goods int) string {
	var out strings.Builder
	lay := func(numbers ...int) {
		for _, n := range numbers {
			s, _ := wire.PutInt(n) // all that is kept is at most 2^40
			out.WriteString(s)
		}
	}
	lay(k.stamp, k.Cash, k.Held)
	lay(k.Goods[:goods]...)
	lay(k.Locked[:goods]...)
	reply, _ := wire.PutText(k.reply)
	out.WriteString(reply)
	return out.String()
}

// keptOf is what a value tells of a client; false, if it is not laid as one, or has a number that is too great.
func keptOf(value string, goods int) (kept, bool) {
	var k kept
	at, ok := 0, true
	// Once a number is refused ok stays false, so that no line below has to ask.
	next := func() int {
		n, behind, e := wire.GetInt(value, at)
		ok = ok && e == api.OK && n <= api.MaxAmount
		at = behind
		return n
	}
	k.stamp = next()
	k.Cash = next()
	k.Held = next()
	for i := range goods {
		k.Goods[i] = next()
	}
	for i := range goods {
		k.Locked[i] = next()
	}
	reply, end, e := wire.GetText(value, at)
	k.reply = reply
	return k, ok && e == api.OK && end == len(value)
}

// sound tells whether calls could have led to what is kept, but for its numbers' greatest.
func (k kept) sound() bool {
	for i, n := range k.Locked {
		if n > k.Goods[i] {
			return false
		}
	}
	return k.Held <= k.Cash && len(k.reply) <= maxReply && (k.stamp > 0 || k.reply == "")
}

// over tells whether there is more of something than may be.
func (x *Ledger) over() bool {
	cash, goods := x.Totals()
	for _, n := range goods {
		if n > api.MaxAmount {
			return true
		}
	}
	return cash > api.MaxAmount
}
