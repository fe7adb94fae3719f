package wire

import "gavel/api"

// maxPaths: a key that is not there is shown by both of its neighbours.
const maxPaths = 2

// PutProof lays a proof.
func PutProof(p api.Proof) (string, api.Errno) {
	if !isProof(p) {
		return "", api.ErrField
	}
	out := layInt(nil, p.Count)
	out = layInt(out, len(p.Paths))
	for _, x := range p.Paths {
		out = layPath(out, x)
	}
	return string(out), api.OK
}

// OfProof reads a proof.
func OfProof(s string) (p api.Proof, e api.Errno) {
	defer func() {
		if x := recover(); x != nil {
			p, e = api.Proof{}, reason(x)
		}
	}()
	r := readerOf(s, api.MaxText)
	p = r.proof()
	r.end()
	if !isProof(p) {
		giveUp(api.ErrField)
	}
	return p, api.OK
}

// isProof tells whether a proof may be.
func isProof(p api.Proof) bool {
	if !within(p.Count, api.MaxRecords) || len(p.Paths) > maxPaths {
		return false
	}
	for _, x := range p.Paths {
		if !isPath(x) {
			return false
		}
	}
	return true
}

func isPath(x api.Path) bool {
	if !within(x.Index, api.MaxRecords-1) || len(x.Key) > api.MaxKey || len(x.Value) > api.MaxValue {
		return false
	}
	if len(x.Sides) > api.MaxSides {
		return false
	}
	for _, side := range x.Sides {
		if len(side) > api.MaxDigest {
			return false
		}
	}
	return true
}

func layPath(out []byte, x api.Path) []byte {
	out = layInt(out, x.Index)
	out = layText(out, x.Key)
	out = layText(out, x.Value)
	out = layInt(out, len(x.Sides))
	for _, side := range x.Sides {
		out = layText(out, side)
	}
	return out
}

func (r *reader) proof() api.Proof {
	var p api.Proof
	p.Count = r.number()
	for range r.count(maxPaths) {
		p.Paths = append(p.Paths, r.path())
	}
	return p
}

func (r *reader) path() api.Path {
	var x api.Path
	x.Index = r.number()
	x.Key = r.text()
	x.Value = r.text()
	for range r.count(api.MaxSides) {
		x.Sides = append(x.Sides, r.text())
	}
	return x
}
