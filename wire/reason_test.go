package wire

import (
	"errors"
	"testing"

	"gavel/api"
)

// R1: a panic that no reader made is answered as an error, too.
func TestReason(t *testing.T) {
	if e := reason(gaveUp{api.ErrShort}); e != api.ErrShort {
		t.Errorf("a reader's: %d", e)
	}
	for _, p := range []any{"text", errors.New("other"), 3, api.ErrShort} {
		if e := reason(p); e != api.ErrForm {
			t.Errorf("%v: %d", p, e)
		}
	}
}
