package ledger

import (
	"strings"

	"gavel/api"
)

// maxReply is how many bytes a reply may have: as many as wire lets the text of one have.
const maxReply = api.MaxOp

// Mark notes a client's stamp and reply.
func (x *Ledger) Mark(who, stamp int, reply string) api.Errno {
	if !x.made() {
		return api.ErrArg
	}
	if !x.has(who) {
		return api.ErrAccount
	}
	if stamp < 1 || stamp > api.MaxStamp || len(reply) > maxReply {
		return api.ErrArg
	}
	k := &x.clients[who]
	if stamp <= k.stamp {
		return api.ErrStale
	}
	// Cloned, since a piece that is kept would keep all of the text around it.
	k.stamp, k.reply = stamp, strings.Clone(reply)
	return api.OK
}

// Last is a client's last stamp and its reply.
func (x *Ledger) Last(who int) (int, string) {
	if !x.made() || !x.has(who) {
		return 0, ""
	}
	k := x.clients[who]
	return k.stamp, k.reply
}
