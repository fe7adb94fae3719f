package core

import (
	"gavel/api"
	"gavel/house"
	"gavel/merkle"
	"gavel/wire"
)

// state is what there was behind a number.
type state struct {
	seq     int
	root    string
	records []api.Record
	cert    []api.Signed // the checkpoints of a quorum, once it is stable
}

// execute executes what is committed, without a gap; false, if there is nothing.
func (r *Replica) execute() bool {
	ahead := r.done
	for {
		b, ok := r.kept[r.done+1]
		if !ok {
			return r.done > ahead
		}
		r.run(b.Text)
	}
}

// run does a batch's requests.
func (r *Replica) run(batch string) {
	l, _ := wire.OfBatch(batch) // batches were read when they came
	for _, m := range l {
		b, _ := r.isRequest(m)
		if reply, e := r.house.Do(b.Client, b.Stamp, b.Text); e == api.OK {
			r.answer(b.Client, b.Stamp, reply)
		}
	}
	r.done++
	r.chain = Link(r.book, r.chain, batch)
	row := api.Done{Seq: r.done, Batch: batch, Chain: r.chain}
	if r.done%api.Every == 0 {
		row.Root = r.Root()
		r.mark(state{seq: r.done, root: row.Root, records: r.Records()})
	}
	r.history = append(r.history, row)
	r.forget()
}

// mark signs the root of a state that may become stable.
func (r *Replica) mark(s state) {
	r.states[s.seq] = s
	b := api.Body{Kind: api.KindCheck, Seq: s.seq, Digest: s.root}
	m, ok := r.seal(b)
	if ok && r.log.Check(m, b) == api.OK {
		r.check = m
		r.tell(m)
	}
}

// onCheck takes a checkpoint.
func (r *Replica) onCheck(m api.Signed, b api.Body) bool {
	return r.log.Check(m, b) == api.OK
}

// settle makes stable what a quorum agrees on; false, if there is nothing such.
func (r *Replica) settle() bool {
	if len(r.states) == 0 {
		return false
	}
	seq, root, cert := r.log.Stable()
	return r.stand(seq, root, cert)
}

// stand makes a root stable that a quorum signed, if it is one of a state that was executed.
func (r *Replica) stand(seq int, root string, cert []api.Signed) bool {
	s, ok := r.states[seq]
	if !ok || s.root != root {
		return false
	}
	s.cert = cert
	r.cut(s)
	return true
}

// cut forgets what stands up to a state that is stable.
func (r *Replica) cut(s state) {
	r.stable = s
	r.log.Cut(s.seq)
	prune(r.kept, s.seq)
	prune(r.states, s.seq)
	prune(r.term.plan, s.seq)
}

// prune deletes what a map has at numbers up to this one.
func prune[T any](m map[int]T, upTo int) {
	for seq := range m {
		if seq <= upTo {
			delete(m, seq)
		}
	}
}

// onState takes a stable checkpoint that lacks here, and its state, if that was not executed.
func (r *Replica) onState(_ api.Signed, b api.Body) bool {
	if b.Seq <= r.log.Low() {
		return false
	}
	cert := r.cert(b.List, api.Body{Kind: api.KindCheck, Seq: b.Seq, Digest: b.Digest})
	if cert == nil {
		return false
	}
	if b.Seq <= r.done {
		return r.stand(b.Seq, b.Digest, cert)
	}
	l, e := wire.OfRecords(b.Text)
	if e != api.OK {
		return false
	}
	return r.adopt(state{seq: b.Seq, root: b.Digest, records: l, cert: cert})
}

// adopt takes a state over, if its records are right.
func (r *Replica) adopt(s state) bool {
	rest, chain, ok := part(s.records)
	if !ok {
		return false
	}
	h, e := house.Of(r.config.Clients, r.config.Goods, rest)
	if e != api.OK {
		return false
	}
	if root, e := merkle.Root(r.book, s.records); e != api.OK || root != s.root {
		return false
	}
	r.house, r.chain, r.done = h, chain, s.seq
	r.history = append(r.history, api.Done{Seq: s.seq, Chain: chain, Root: s.root, Adopted: true})
	r.cut(s)
	r.forget()
	return true
}
