package ledger

import "gavel/api"

// Store lays goods into an account.
func (x *Ledger) Store(who, good, n int) api.Errno {
	if e := x.refuseGood(good, n, who); e != api.OK {
		return e
	}
	if _, goods := x.Totals(); goods[good]+n > api.MaxAmount {
		return api.ErrOver
	}
	x.clients[who].Goods[good] += n
	return api.OK
}

// Fetch takes free goods out of an account.
func (x *Ledger) Fetch(who, good, n int) api.Errno {
	if e := x.refuseGood(good, n, who); e != api.OK {
		return e
	}
	k := &x.clients[who]
	if k.Goods[good]-k.Locked[good] < n {
		return api.ErrPoor
	}
	k.Goods[good] -= n
	return api.OK
}

// Lock locks free goods.
func (x *Ledger) Lock(who, good, n int) api.Errno {
	if e := x.refuseGood(good, n, who); e != api.OK {
		return e
	}
	k := &x.clients[who]
	if k.Goods[good]-k.Locked[good] < n {
		return api.ErrPoor
	}
	k.Locked[good] += n
	return api.OK
}

// Unlock lets locked goods go.
func (x *Ledger) Unlock(who, good, n int) api.Errno {
	if e := x.refuseGood(good, n, who); e != api.OK {
		return e
	}
	k := &x.clients[who]
	if k.Locked[good] < n {
		return api.ErrPoor
	}
	k.Locked[good] -= n
	return api.OK
}

// Hand moves locked goods to another account, where they are free.
func (x *Ledger) Hand(from, to, good, n int) api.Errno {
	if e := x.refuseGood(good, n, from, to); e != api.OK {
		return e
	}
	k := &x.clients[from]
	if k.Locked[good] < n {
		return api.ErrPoor
	}
	k.Locked[good] -= n
	k.Goods[good] -= n
	x.clients[to].Goods[good] += n
	return api.OK
}
