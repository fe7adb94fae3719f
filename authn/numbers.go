package authn

import (
	"strings"

	"gavel/api"
)

// pair is a signer and a text that it signed.
type pair struct {
	who  int
	text string
}

// numbers is the scheme that numbers what comes: nobody finds two texts of one digest, or signs as another one.
type numbers struct {
	texts  map[string]int
	signed map[pair]int
}

func newNumbers() *numbers {
	return &numbers{texts: map[string]int{}, signed: map[pair]int{}}
}

func (k *numbers) digest(s string) string {
	n, ok := k.texts[s]
	if !ok {
		n = len(k.texts) + 1
		// Cloned, since a piece that is kept would keep all of the text around it.
		k.texts[strings.Clone(s)] = n
	}
	return eight(n)
}

func (k *numbers) sign(who int, s string) (string, api.Errno) {
	n, ok := k.signed[pair{who, s}]
	if !ok {
		n = len(k.signed) + 1
		k.signed[pair{who, strings.Clone(s)}] = n
	}
	return signature(n), api.OK
}

func (k *numbers) check(who int, s, sig string) bool {
	n, ok := k.signed[pair{who, s}]
	return ok && sig == signature(n)
}

func (k *numbers) issued(who int, s string) bool {
	_, ok := k.signed[pair{who, s}]
	return ok
}

// signature is that of the pair of this number.
func signature(n int) string { return "s" + eight(n) }

// eight is a number as eight bytes, the highest first.
func eight(n int) string {
	var out [8]byte
	for i := range out {
		out[len(out)-1-i] = byte(n >> (8 * i))
	}
	return string(out[:])
}
