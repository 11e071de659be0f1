package shard

import (
	"math"
	"slices"

	"caisson/api"
	"caisson/codec"
	"caisson/lock"
)

// batch: what a command writes, beside the machine's numbers.
type batch struct {
	ts     uint64
	writes []api.Write
	notes  []api.Pair
	locks  []byte // as they are to be noted, if they have changed
}

// Apply: a command is done.
func (m *Machine) Apply(index uint64, data []byte) (Result, api.Errno) {
	switch {
	case m.Dead(): // the lesser error of the two
		return Result{}, api.ErrDead
	case index <= m.applied:
		return Result{}, api.ErrOld
	}
	b := batch{ts: math.MaxUint64} // without writes any will do that isn't below Low
	r, e := m.run(data, &b)
	if e == api.OK {
		m.applied = index
		e = m.Store.Apply(b.ts, b.writes, m.notes(b)...)
	}
	if e != api.OK {
		m.back()
		return Result{}, e
	}
	return r, api.OK
}

// notes: all that a batch notes.
func (m *Machine) notes(b batch) []api.Pair {
	out := append(b.notes, api.Pair{Key: []byte(numbersName), Value: m.numbers()})
	if len(b.locks) > 0 {
		out = append(out, api.Pair{Key: []byte(locksName), Value: b.locks})
	}
	return out
}

// back: the state is again what the store has, as it was ahead of a command.
func (m *Machine) back() {
	if x, e := load(m.Store); e == api.OK {
		m.state = x
	}
}

// run: what a command comes to. It changes the state, and tells what is to be written; the errors are the store's.
func (m *Machine) run(data []byte, b *batch) (Result, api.Errno) {
	if len(data) == 0 {
		return Result{}, api.OK
	}
	c, e := Decode(data)
	switch {
	case e != api.OK:
		return Result{Err: api.ErrForm}, api.OK
	case tooGreat(c.Txn) || c.Ts > mostTs:
		return Result{Err: api.ErrArg}, api.OK
	case c.Kind == Lock:
		return m.lock(c, b)
	case c.Kind == Decide:
		return m.decide(c, b), api.OK
	}
	return m.finish(c, b), api.OK
}

// lock: a transaction asks for ranges.
func (m *Machine) lock(c Cmd, b *batch) (Result, api.Errno) {
	if done, there := m.done(c.Txn.Session); there && done >= c.Txn.Seq {
		return Result{Err: api.ErrOld}, api.OK
	}
	if e := rangesError(c.Ranges); e != api.OK {
		return Result{Err: e}, api.OK
	}
	status := m.Known(c.Txn)
	wanted := m.wanted(c)
	if status != lock.Refused && status != lock.Waiting && len(wanted) > 0 {
		status = m.ask(c.Txn, wanted)
		if b.locks = m.locksNote(); len(b.locks) > mostLocks {
			m.back()
			b.locks = nil
			return Result{Err: api.ErrFull}, api.OK
		}
	}
	if status != lock.Granted {
		return Result{Status: status}, api.OK
	}
	r := Result{Status: status, Ts: m.marks[c.Txn].top}
	for _, x := range c.Ranges {
		pairs, e := m.Scan(x.From, x.To, math.MaxUint64)
		if e != api.OK {
			return Result{}, e
		}
		r.Pairs = append(r.Pairs, pairs...)
	}
	return r, api.OK
}

// rangesError: that of lock.Ask, or of no ranges. (A table that knows nobody tells it.)
func rangesError(ranges []api.Range) api.Errno {
	if len(ranges) == 0 {
		return api.ErrForm
	}
	var table lock.Table
	_, e := table.Ask(api.Txn{}, ranges...)
	return e
}

// wanted: which of a command's ranges aren't covered.
func (m *Machine) wanted(c Cmd) []api.Range {
	held := m.locks.Held(c.Txn)
	var out []api.Range
	for _, r := range c.Ranges {
		if !covered(held, r) {
			out = append(out, r)
		}
	}
	return out
}

// covered: has one of the held ranges all keys of this one, and for oneself alone, if that is so?
func covered(held []api.Range, r api.Range) bool {
	return slices.ContainsFunc(held, func(h api.Range) bool {
		reaches := len(h.To) == 0 || len(r.To) > 0 && codec.Cmp(r.To, h.To) <= 0
		return (h.Excl || !r.Excl) && codec.Cmp(h.From, r.From) <= 0 && reaches
	})
}

// ask: a transaction that doesn't wait asks for what it doesn't hold yet. Its status.
func (m *Machine) ask(txn api.Txn, wanted []api.Range) int {
	r, _ := m.locks.Ask(txn, wanted...) // it has no error: these ranges have none, and who asks doesn't wait
	for _, x := range r.Victims {
		k := m.marks[x]
		k.refused = true
		m.marks[x] = k
	}
	for _, x := range r.Granted {
		m.grant(x)
	}
	if r.Status == lock.Granted {
		m.grant(txn)
	}
	return r.Status
}

// decide: the first decision holds.
func (m *Machine) decide(c Cmd, b *batch) Result {
	if x, there := m.Record(c.Txn); there {
		return Result{Record: x}
	}
	x := Record{Reply: c.Reply}
	if c.Commit {
		x = Record{Commit: true, Ts: c.Ts, Writes: c.Writes, Reply: c.Reply}
	}
	if !x.fits() {
		return Result{Err: api.ErrSize}
	}
	m.learn(b, recordName(c.Txn), x.bytes())
	return Result{Record: x}
}

// fits: is a record not too great?
func (x Record) fits() bool {
	size := len(x.Reply)
	for _, w := range x.Writes {
		size += len(w.Key) + len(w.Value) + writeShare
	}
	return len(x.Writes) <= mostWrites && size <= mostRecord
}

// learn: a fact, in the place of one of that name, if there is one.
func (m *Machine) learn(b *batch, name, value []byte) {
	ahead, _, there := m.fact(name)
	if !there {
		ahead = m.newest
		m.newest = name
		m.facts++
	}
	b.notes = append(b.notes, api.Pair{Key: name, Value: codec.Frame(ahead, value)})
}

// finish: a transaction's writes, if it commits; and it is released.
func (m *Machine) finish(c Cmd, b *batch) Result {
	var r Result
	known := m.locks.Status(c.Txn) != lock.Free
	if c.Commit && known {
		r.Err = m.refusal(c)
	}
	if c.Commit && r.Err == api.OK {
		m.clock = max(m.clock, c.Ts)
		if known && len(c.Writes) > 0 {
			b.ts, b.writes = c.Ts, c.Writes
		}
	}
	if known {
		delete(m.marks, c.Txn)
		for _, x := range m.locks.Release(c.Txn) {
			m.grant(x)
		}
		b.locks = m.locksNote()
	}
	if done, there := m.done(c.Txn.Session); !there || done < c.Txn.Seq {
		m.learn(b, doneName(c.Txn.Session), codec.PutU(c.Txn.Seq))
	}
	return r
}

// refusal: the error of what a transaction that the locks know is to write.
func (m *Machine) refusal(c Cmd) api.Errno {
	held := m.locks.Held(c.Txn)
	size := 0
	guarded := len(c.Writes) <= mostWrites
	for _, w := range c.Writes {
		alone := api.Range{From: w.Key, To: append(slices.Clone(w.Key), 0), Excl: true}
		guarded = guarded && covered(held, alone) && writable(w)
		size += len(w.Key) + len(w.Value)
	}
	switch {
	case !guarded || size > mostBytes:
		return api.ErrGuard
	case c.Ts < m.marks[c.Txn].top:
		return api.ErrOld
	}
	return api.OK
}

// writable: can it be a version?
func writable(w api.Write) bool {
	return len(w.Key) <= mostKey && len(w.Value) <= mostValue && !(w.Gone && len(w.Value) > 0)
}
