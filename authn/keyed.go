package authn

import (
	"strings"

	"gavel/api"
	"gavel/sha"
)

const maxSecret = 64 // bytes of a signer's secret

// keyed is the scheme of sums and of HMACs by the signers' secrets.
type keyed struct{ secrets []string }

// areSecrets tells whether a book can be made with these.
func areSecrets(l []string) bool {
	for _, s := range l {
		if len(s) < 1 || len(s) > maxSecret {
			return false
		}
	}
	return len(l) <= api.MaxWho+1
}

func newKeyed(secrets []string) *keyed {
	k := &keyed{}
	for _, s := range secrets {
		k.secrets = append(k.secrets, strings.Clone(s))
	}
	return k
}

func (k *keyed) digest(s string) string { return sha.Sum(s) }

func (k *keyed) sign(who int, s string) (string, api.Errno) {
	if who >= len(k.secrets) {
		return "", api.ErrNone
	}
	return sha.Mac(k.secrets[who], s), api.OK
}

func (k *keyed) check(who int, s, sig string) bool {
	want, e := k.sign(who, s)
	return e == api.OK && sig == want
}

// issued is false of all: such a book makes a signature anew each time, and does not keep who asked for one.
func (k *keyed) issued(int, string) bool { return false }
