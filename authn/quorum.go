package authn

import "gavel/api"

// Quorum counts who, below a number, signed a body of this kind, view, number and digest.
func (b *Book) Quorum(l []api.Signed, kind, view, seq int, digest string, below int) int {
	var counted [api.MaxWho + 1]bool
	n := 0
	for _, m := range l {
		// Who is counted is not opened again: a signature's check is dear.
		if !isSigner(m.From) || m.From >= below || counted[m.From] {
			continue
		}
		x, e := b.Open(m)
		if e == api.OK && x.Kind == kind && x.View == view && x.Seq == seq && x.Digest == digest {
			counted[m.From] = true
			n++
		}
	}
	return n
}
