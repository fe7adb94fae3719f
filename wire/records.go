package wire

import "gavel/api"

// PutRecords lays records.
func PutRecords(l []api.Record) (string, api.Errno) {
	if e := rise(l); e != api.OK {
		return "", e
	}
	out := layInt(nil, len(l))
	for _, x := range l {
		out = layText(out, x.Key)
		out = layText(out, x.Value)
	}
	return fit(out)
}

// OfRecords reads records.
func OfRecords(s string) (l []api.Record, e api.Errno) {
	defer func() {
		if p := recover(); p != nil {
			l, e = nil, reason(p)
		}
	}()
	r := readerOf(s, api.MaxText)
	l = r.records()
	r.end()
	mind(rise(l))
	return l, api.OK
}

// rise tells why records may not be; OK, if they may.
func rise(l []api.Record) api.Errno {
	if len(l) > api.MaxRecords {
		return api.ErrFull
	}
	last := "" // below each key, since none is empty
	for _, x := range l {
		if x.Key == "" || len(x.Key) > api.MaxKey || len(x.Value) > api.MaxValue {
			return api.ErrField
		}
		if x.Key <= last {
			return api.ErrOrder
		}
		last = x.Key
	}
	return api.OK
}

func (r *reader) records() []api.Record {
	var l []api.Record
	for range r.count(api.MaxRecords) {
		var x api.Record
		x.Key = r.text()
		x.Value = r.text()
		l = append(l, x)
	}
	return l
}
