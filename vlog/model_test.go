package vlog_test

import (
	"slices"

	"gavel/api"
)

// The calls that change a log.
const (
	entering = iota + 1
	cutting
	proposing
	voting
	checking
)

// deed is such a call.
type deed struct {
	call, view, seq, kind int
	digest, batch         string
	m                     api.Signed
}

// model is a log by the words of the chapter: all that it took, in its order, out of which what it tells is worked out anew each time. Nothing is forgotten: numbers that were cut off and views that are over do not come again.
type model struct {
	n, quorum int
	deeds     []deed
}

// last is the last deed that is so.
func (m *model) last(so func(deed) bool) (deed, bool) {
	for _, d := range slices.Backward(m.deeds) {
		if so(d) {
			return d, true
		}
	}
	return deed{}, false
}

func (m *model) view() int {
	d, _ := m.last(func(d deed) bool { return d.call == entering })
	return d.view
}

func (m *model) low() int {
	d, _ := m.last(func(d deed) bool { return d.call == cutting })
	return d.seq
}

func (m *model) proposal(view, seq int) (deed, bool) {
	return m.last(func(d deed) bool { return d.call == proposing && d.view == view && d.seq == seq })
}

func (m *model) vote(kind, view, seq, from int) (deed, bool) {
	return m.last(func(d deed) bool {
		return d.call == voting && d.kind == kind && d.view == view && d.seq == seq && d.m.From == from
	})
}

func (m *model) check(from int) (deed, bool) {
	return m.last(func(d deed) bool { return d.call == checking && d.m.From == from })
}

// refuse is what a call must answer.
func (m *model) refuse(d deed) api.Errno {
	view, low := m.view(), m.low()
	replica := 0 <= d.m.From && d.m.From < m.n
	outside := d.view != view || d.seq < low+1 || d.seq > low+8
	switch {
	case d.call == entering && (d.view <= view || d.view > topView):
		return api.ErrArg
	case d.call == cutting && (d.seq <= low || d.seq > topCut || d.seq%4 != 0):
		return api.ErrArg
	case d.call == proposing:
		if d.digest == "" {
			return api.ErrArg
		}
		if outside {
			return api.ErrWindow
		}
		x, there := m.proposal(view, d.seq)
		return again(there, x.digest == d.digest && x.batch == d.batch)
	case d.call == voting:
		if !replica || d.kind != api.KindPrepare && d.kind != api.KindCommit {
			return api.ErrArg
		}
		if outside {
			return api.ErrWindow
		}
		x, there := m.vote(d.kind, view, d.seq, d.m.From)
		return again(there, x.digest == d.digest)
	case d.call == checking:
		if !replica || d.kind != api.KindCheck {
			return api.ErrArg
		}
		if d.seq <= low {
			return api.ErrWindow
		}
		x, there := m.check(d.m.From)
		return again(there && x.seq >= d.seq, x.seq > d.seq || x.digest == d.digest)
	}
	return api.OK
}

func again(there, same bool) api.Errno {
	if !there {
		return api.OK
	}
	if same {
		return api.ErrTwice
	}
	return api.ErrClash
}

// do takes a call, or tells why not.
func (m *model) do(d deed) api.Errno {
	e := m.refuse(d)
	if e == api.OK {
		m.deeds = append(m.deeds, d)
	}
	return e
}

// agree tells whether a quorum has votes of a kind for the proposal's digest.
func (m *model) agree(kind, view, seq int) bool {
	p, there := m.proposal(view, seq)
	count := 0
	for from := range m.n {
		if v, voted := m.vote(kind, view, seq, from); there && voted && v.digest == p.digest {
			count++
		}
	}
	return count >= m.quorum
}

// proof goes through a view's deeds at a number, up to the one by which it became prepared.
func (m *model) proof(view, seq int) (api.Body, bool) {
	var p deed
	prepares := map[int]deed{}
	for _, d := range m.deeds {
		if d.view != view || d.seq != seq {
			continue
		}
		if d.call == proposing {
			p = d
		}
		if d.call == voting && d.kind == api.KindPrepare {
			prepares[d.m.From] = d
		}
		var list []api.Signed
		for from := range m.n {
			if v, voted := prepares[from]; voted && v.digest == p.digest && p.call != 0 {
				list = append(list, v.m)
			}
		}
		if len(list) >= m.quorum {
			return api.Body{Kind: api.KindKept, View: view, Seq: seq, Digest: p.digest, Text: p.batch, List: list[:m.quorum]}, true
		}
	}
	return api.Body{}, false
}

// views are all that it ever had, rising.
func (m *model) views() []int {
	l := []int{0}
	for _, d := range m.deeds {
		if d.call == entering {
			l = append(l, d.view)
		}
	}
	return l
}

func (m *model) kept() []api.Body {
	out := []api.Body{}
	for seq := m.low() + 1; seq <= m.low()+8; seq++ {
		for _, view := range slices.Backward(m.views()) {
			if p, ok := m.proof(view, seq); ok {
				out = append(out, p)
				break
			}
		}
	}
	return out
}

// stable holds each replica's last checkpoint against all others'.
func (m *model) stable() (int, string, []api.Signed) {
	best, certs := deed{seq: m.low()}, []api.Signed{}
	for who := range m.n {
		c, there := m.check(who)
		cert := []api.Signed{}
		for from := range m.n {
			if x, too := m.check(from); there && too && x.seq == c.seq && x.digest == c.digest && len(cert) < m.quorum {
				cert = append(cert, x.m)
			}
		}
		if len(cert) == m.quorum && c.seq > best.seq {
			best, certs = c, cert
		}
	}
	if len(certs) == 0 {
		return 0, "", certs
	}
	return best.seq, best.digest, certs
}

// tell is all that the log must tell.
func (m *model) tell() told {
	x := nothing(m.view(), m.low())
	for seq := x.low + 1; seq <= x.low+8; seq++ {
		if p, ok := m.proposal(x.view, seq); ok {
			x.proposals[seq] = offer{p.digest, p.batch}
		}
		if m.agree(api.KindPrepare, x.view, seq) {
			x.prepared[seq] = true
			if m.agree(api.KindCommit, x.view, seq) {
				x.committed[seq] = true
			}
		}
		for _, kind := range []int{api.KindPrepare, api.KindCommit} {
			for from := range m.n {
				if v, ok := m.vote(kind, x.view, seq, from); ok {
					x.voted[ballot{kind, seq, from}] = v.m
				}
			}
		}
	}
	x.kept = m.kept()
	x.seq, x.root, x.cert = m.stable()
	return x
}
