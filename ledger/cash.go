package ledger

import "gavel/api"

// Pay lays cash into an account.
func (x *Ledger) Pay(who, n int) api.Errno {
	if e := x.refuse(n, who); e != api.OK {
		return e
	}
	if cash, _ := x.Totals(); cash+n > api.MaxAmount {
		return api.ErrOver
	}
	x.clients[who].Cash += n
	return api.OK
}

// Take takes free cash out of an account.
func (x *Ledger) Take(who, n int) api.Errno {
	if e := x.refuse(n, who); e != api.OK {
		return e
	}
	k := &x.clients[who]
	if k.Cash-k.Held < n {
		return api.ErrPoor
	}
	k.Cash -= n
	return api.OK
}

// Hold holds free cash.
func (x *Ledger) Hold(who, n int) api.Errno {
	if e := x.refuse(n, who); e != api.OK {
		return e
	}
	k := &x.clients[who]
	if k.Cash-k.Held < n {
		return api.ErrPoor
	}
	k.Held += n
	return api.OK
}

// Free lets held cash go.
func (x *Ledger) Free(who, n int) api.Errno {
	if e := x.refuse(n, who); e != api.OK {
		return e
	}
	k := &x.clients[who]
	if k.Held < n {
		return api.ErrPoor
	}
	k.Held -= n
	return api.OK
}

// Move moves held cash to another account, where it is free.
func (x *Ledger) Move(from, to, n int) api.Errno {
	if e := x.refuse(n, from, to); e != api.OK {
		return e
	}
	k := &x.clients[from]
	if k.Held < n {
		return api.ErrPoor
	}
	k.Held -= n
	k.Cash -= n
	x.clients[to].Cash += n
	return api.OK
}
