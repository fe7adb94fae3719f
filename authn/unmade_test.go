package authn_test

import (
	"testing"

	"gavel/api"
	"gavel/authn"
)

// 3.7
func TestBooksThatNobodyMade(t *testing.T) {
	made := authn.NewBook()
	m := seal(t, made, 2, prepare)
	for name, b := range map[string]*authn.Book{"nil": nil, "zero": {}, "new": new(authn.Book)} {
		for range 2 { // no call makes it a book
			for _, s := range texts {
				if d := b.Digest(s); d != "" {
					t.Errorf("%s: Digest(%.20q) = %x", name, s, d)
				}
			}
			for _, who := range append(outside, 0, 2, 255) {
				wantSign(t, b, who, "x", "", api.ErrArg)
				if b.Issued(who, "x") || b.Issued(who, m.Body) {
					t.Errorf("%s: issued", name)
				}
				for _, sig := range []string{"", m.Sig, "s" + number(1), mac("", m.Body)} {
					if b.Check(who, m.Body, sig) || b.Check(who, "", sig) {
						t.Errorf("%s: checked", name)
					}
				}
				for _, x := range []api.Body{prepare, {}, {Kind: 14}, {Kind: api.KindPrepare}} {
					if got, e := b.Seal(who, x); got != (api.Signed{}) || e != api.ErrArg {
						t.Errorf("%s: Seal(%d, %v) = %v, %d", name, who, x, got, e)
					}
				}
			}
			for _, x := range []api.Signed{m, {}, {From: -1}, {From: 2, Body: "no body", Sig: "s"}} {
				wantOpen(t, name, b, x, api.Body{}, api.ErrArg)
			}
			wantQuorum(t, name, b, []api.Signed{m, {}}, prepare, 4, 0)
			wantQuorum(t, name, b, []api.Signed{m, {}}, api.Body{}, 256, 0)
			wantQuorum(t, name, b, nil, prepare, 4, 0)
		}
	}
	wantOpen(t, "a book that was made", made, m, prepare, api.OK)
}
