package wire

import (
	"strings"

	"gavel/api"
)

// maxDigits is how many digits to the base 128 the greatest number has.
const maxDigits = 8

// reader reads from the front and gives up by a panic, so that no step has to ask whether the one ahead went well.
type reader struct {
	s  string
	at int
}

// gaveUp is what a reader panics with: a type of its own, so that no other panic is taken for it.
type gaveUp struct{ why api.Errno }

func giveUp(why api.Errno) { panic(gaveUp{why}) }

// mind gives up with an error, if it is one.
func mind(e api.Errno) {
	if e != api.OK {
		giveUp(e)
	}
}

// reason is the error that a face answers for a recovered panic.
func reason(p any) api.Errno {
	if g, ok := p.(gaveUp); ok {
		return g.why
	}
	// No call may panic, whoever wrote the bytes: what no reader told is refused all the same.
	return api.ErrForm
}

func readerAt(s string, at int) *reader {
	if !within(at, len(s)) {
		giveUp(api.ErrArg)
	}
	return &reader{s: s, at: at}
}

// readerOf reads all of a text that has at most so many bytes.
func readerOf(s string, most int) *reader {
	if len(s) > most {
		giveUp(api.ErrLong)
	}
	return &reader{s: s}
}

func (r *reader) next() byte {
	if r.at >= len(r.s) {
		giveUp(api.ErrShort)
	}
	c := r.s[r.at]
	r.at++
	return c
}

func (r *reader) number() int {
	n := 0
	for i := 0; ; i++ {
		c := r.next()
		n |= int(c&0x7f) << (7 * i)
		if c >= 0x80 && i < maxDigits-1 {
			continue
		}
		if c >= 0x80 || c == 0 && i > 0 || n > api.MaxNumber {
			giveUp(api.ErrForm)
		}
		return n
	}
}

func (r *reader) text() string {
	n := r.number()
	if n > api.MaxText {
		giveUp(api.ErrLong)
	}
	if n > len(r.s)-r.at {
		giveUp(api.ErrShort)
	}
	// Cloned, since a digest that is kept would keep all of the bytes around it.
	t := strings.Clone(r.s[r.at : r.at+n])
	r.at += n
	return t
}

// count reads how many things follow, of at most so many.
func (r *reader) count(most int) int {
	n := r.number()
	if n > most {
		giveUp(api.ErrFull)
	}
	return n
}

// end gives up, if bytes are left.
func (r *reader) end() {
	if r.at < len(r.s) {
		giveUp(api.ErrTail)
	}
}
