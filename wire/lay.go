package wire

import "gavel/api"

// layInt lays a number behind what is there; it must be one.
func layInt(out []byte, n int) []byte {
	for n >= 0x80 {
		out = append(out, byte(n&0x7f)|0x80)
		n >>= 7
	}
	return append(out, byte(n))
}

func layText(out []byte, t string) []byte {
	return append(layInt(out, len(t)), t...)
}

// fit is what was laid, if it is not too long for a text.
func fit(out []byte) (string, api.Errno) {
	if len(out) > api.MaxText {
		return "", api.ErrLong
	}
	return string(out), api.OK
}
