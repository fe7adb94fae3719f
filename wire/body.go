package wire

import "gavel/api"

// fields is a set of a body's fields beside Kind.
type fields int

const (
	hasView fields = 1 << iota
	hasSeq
	hasClient
	hasStamp
	hasDigest
	hasText
	hasList
)

// shape is what a kind asks of its bodies.
type shape struct {
	may, must                 fields
	client, every, text, list int // the greatest Client; what divides Seq; how long Text and List may be
}

// shapeOf is a kind's shape; false: there is no such kind.
func shapeOf(kind int) (shape, bool) {
	s := shape{client: api.MaxClients - 1, every: 1, text: api.MaxText, list: api.MaxList}
	switch kind {
	case api.KindRequest:
		s.may, s.must, s.text = hasClient|hasStamp|hasText, hasStamp, api.MaxOp
	case api.KindPropose:
		s.may, s.must, s.list = hasView|hasSeq|hasList, hasSeq, api.MaxBatch
	case api.KindPrepare, api.KindCommit:
		s.may, s.must = hasView|hasSeq|hasDigest, hasSeq|hasDigest
	case api.KindCheck:
		s.may, s.must, s.every = hasSeq|hasDigest, hasSeq|hasDigest, api.Every
	case api.KindChange:
		s.may, s.must, s.every = hasView|hasSeq|hasList, hasView, api.Every
	case api.KindBegin:
		s.may, s.must = hasView|hasList, hasView|hasList
	case api.KindStatus:
		s.may, s.client = hasView|hasSeq|hasClient|hasStamp, 1
	case api.KindState, api.KindProof:
		s.may, s.must, s.every = hasSeq|hasDigest|hasText|hasList, hasSeq|hasDigest|hasList, api.Every
	case api.KindReply:
		s.may, s.must, s.text = hasView|hasClient|hasStamp|hasText, hasStamp, api.MaxOp
	case api.KindKept:
		s.may, s.must = hasView|hasSeq|hasDigest|hasText|hasList, hasSeq|hasDigest|hasList
	case api.KindAsk:
		s.may, s.text = hasClient|hasText, api.MaxKey
	default:
		return shape{}, false
	}
	return s, true
}

// fieldsOf are the fields of a body that are other than 0 and nothing.
func fieldsOf(b api.Body) fields {
	var f fields
	note := func(bit fields, there bool) {
		if there {
			f |= bit
		}
	}
	note(hasView, b.View != 0)
	note(hasSeq, b.Seq != 0)
	note(hasClient, b.Client != 0)
	note(hasStamp, b.Stamp != 0)
	note(hasDigest, b.Digest != "")
	note(hasText, b.Text != "")
	note(hasList, len(b.List) > 0)
	return f
}

// Right tells whether a body may be.
func Right(b api.Body) api.Errno {
	s, ok := shapeOf(b.Kind)
	if !ok {
		return api.ErrKind
	}
	has := fieldsOf(b)
	if has&^s.may != 0 || s.must&^has != 0 || !fitsNumbers(b, s) || !fitsTexts(b, s) {
		return api.ErrField
	}
	return api.OK
}

func fitsNumbers(b api.Body, s shape) bool {
	return within(b.View, api.MaxView) && within(b.Seq, api.MaxSeq) && b.Seq%s.every == 0 &&
		within(b.Client, s.client) && within(b.Stamp, api.MaxStamp)
}

func fitsTexts(b api.Body, s shape) bool {
	return len(b.Digest) <= api.MaxDigest && len(b.Text) <= s.text &&
		len(b.List) <= s.list && areSigned(b.List)
}

// Bytes lays a body.
func Bytes(b api.Body) (string, api.Errno) {
	if e := Right(b); e != api.OK {
		return "", e
	}
	var out []byte
	for _, n := range [...]int{b.Kind, b.View, b.Seq, b.Client, b.Stamp} {
		out = layInt(out, n)
	}
	out = layText(out, b.Digest)
	out = layText(out, b.Text)
	return fit(layList(out, b.List))
}

// Of reads a body.
func Of(s string) (b api.Body, e api.Errno) {
	defer func() {
		if p := recover(); p != nil {
			b, e = api.Body{}, reason(p)
		}
	}()
	r := readerOf(s, api.MaxText)
	b = r.body()
	r.end()
	mind(Right(b))
	return b, api.OK
}

func (r *reader) body() api.Body {
	var b api.Body
	b.Kind = r.number()
	b.View = r.number()
	b.Seq = r.number()
	b.Client = r.number()
	b.Stamp = r.number()
	b.Digest = r.text()
	b.Text = r.text()
	b.List = r.list(api.MaxList)
	return b
}
