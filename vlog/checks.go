package vlog

import "gavel/api"

// Check notes a checkpoint.
func (l *Log) Check(m api.Signed, b api.Body) api.Errno {
	if !l.has(m.From) || b.Kind != api.KindCheck {
		return api.ErrArg
	}
	if b.Seq <= l.window.low {
		return api.ErrWindow
	}
	last := l.checks[m.From] // the number 0, below all others, if there is none
	if last.seq == b.Seq && last.digest != b.Digest {
		return api.ErrClash
	}
	if last.seq >= b.Seq {
		return api.ErrTwice
	}
	l.checks.note(m, claimed(b.Seq, b.Digest))
	return api.OK
}

// Stable is the highest checkpoint above the low one that as many agree on as must, with their messages.
func (l *Log) Stable() (seq int, root string, cert []api.Signed) {
	if !l.made() {
		return 0, "", nil
	}
	best := claim{seq: l.window.low}
	for _, x := range l.checks {
		if said := l.quorum(l.checks, x.claim); said != nil && x.seq > best.seq {
			best, cert = x.claim, said
		}
	}
	if cert == nil {
		return 0, "", nil
	}
	return best.seq, best.digest, cert
}
