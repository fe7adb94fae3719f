package wire

import "gavel/api"

// PutSigned lays a message.
func PutSigned(m api.Signed) (string, api.Errno) {
	if !isSigned(m) {
		return "", api.ErrField
	}
	return string(laySigned(nil, m)), api.OK
}

// OfSigned reads a message.
func OfSigned(s string) (m api.Signed, e api.Errno) {
	defer func() {
		if p := recover(); p != nil {
			m, e = api.Signed{}, reason(p)
		}
	}()
	r := readerOf(s, api.MaxBytes)
	m = r.signed()
	r.end()
	if !isSigned(m) {
		giveUp(api.ErrField)
	}
	return m, api.OK
}

// Batch lays a batch.
func Batch(l []api.Signed) (string, api.Errno) {
	if len(l) > api.MaxBatch {
		return "", api.ErrFull
	}
	if !areSigned(l) {
		return "", api.ErrField
	}
	return fit(layList(nil, l))
}

// OfBatch reads a batch.
func OfBatch(s string) (l []api.Signed, e api.Errno) {
	defer func() {
		if p := recover(); p != nil {
			l, e = nil, reason(p)
		}
	}()
	r := readerOf(s, api.MaxText)
	l = r.list(api.MaxBatch)
	r.end()
	if !areSigned(l) {
		giveUp(api.ErrField)
	}
	return l, api.OK
}

// isSigned tells whether a message may be.
func isSigned(m api.Signed) bool {
	return within(m.From, api.MaxWho) && len(m.Body) <= api.MaxText && len(m.Sig) <= api.MaxDigest
}

func areSigned(l []api.Signed) bool {
	for _, m := range l {
		if !isSigned(m) {
			return false
		}
	}
	return true
}

func laySigned(out []byte, m api.Signed) []byte {
	out = layInt(out, m.From)
	out = layText(out, m.Body)
	return layText(out, m.Sig)
}

// layList lays how many messages there are, and these.
func layList(out []byte, l []api.Signed) []byte {
	out = layInt(out, len(l))
	for _, m := range l {
		out = laySigned(out, m)
	}
	return out
}

func (r *reader) signed() api.Signed {
	var m api.Signed
	m.From = r.number()
	m.Body = r.text()
	m.Sig = r.text()
	return m
}

func (r *reader) list(most int) []api.Signed {
	var l []api.Signed
	for range r.count(most) {
		l = append(l, r.signed())
	}
	return l
}
