// Package wire is layer 1: numbers, texts, bodies, messages, batches, records, proofs and requests as bytes, and back. See shared/doc/01-wire.md.
package wire

import "gavel/api"

// PutInt lays a number.
func PutInt(n int) (string, api.Errno) {
	if !isNumber(n) {
		return "", api.ErrArg
	}
	return string(layInt(nil, n)), api.OK
}

// GetInt reads a number at a place: it, and the place behind it.
func GetInt(s string, at int) (n, next int, e api.Errno) {
	defer func() {
		if p := recover(); p != nil {
			n, next, e = 0, 0, reason(p)
		}
	}()
	r := readerAt(s, at)
	n = r.number()
	return n, r.at, api.OK
}

// PutText lays a text behind its length.
func PutText(t string) (string, api.Errno) {
	if len(t) > api.MaxText {
		return "", api.ErrLong
	}
	return string(layText(nil, t)), api.OK
}

// GetText reads a text at a place: it, and the place behind it.
func GetText(s string, at int) (t string, next int, e api.Errno) {
	defer func() {
		if p := recover(); p != nil {
			t, next, e = "", 0, reason(p)
		}
	}()
	r := readerAt(s, at)
	t = r.text()
	return t, r.at, api.OK
}

func isNumber(n int) bool { return within(n, api.MaxNumber) }

func within(n, most int) bool { return 0 <= n && n <= most }
