package shard

import (
	"bytes"

	"caisson/api"
	"caisson/codec"
	"caisson/lock"
	"caisson/mvcc"
)

// The names of notes; those of facts go on behind their first byte.
const (
	numbersName = "n"
	locksName   = "l"
	doneMark    = 'd' // the number of the last request of a session that is done
	recordMark  = 'r' // the record of a decision
)

// markSize is how many bytes a mark has, so that locks don't grow when time goes on.
const markSize = 17

// mark: what is known of a transaction that the locks know.
type mark struct {
	floor, top uint64 // 0: nothing was granted to it yet
	refused    bool
}

// state: what of a machine is in memory, too; all of it is in notes. The store also has facts: done numbers and records, each in a note that names the fact that was the newest ahead of it, so that all can be found.
type state struct {
	applied, clock uint64
	facts          uint64 // how many there are
	newest         []byte // the newest fact's name
	locks          *lock.Table
	marks          map[api.Txn]mark
}

// load: the state that a store has.
func load(s mvcc.Store) (state, api.Errno) {
	x := state{locks: &lock.Table{}, marks: map[api.Txn]mark{}}
	if s.Seq() == 0 {
		return x, api.OK
	}
	numbers, _, e := s.Note([]byte(numbersName)) // none aren't right either
	if e != api.OK {
		return state{}, e
	}
	if !x.takeNumbers(numbers) {
		return state{}, api.ErrForm
	}
	locks, there, e := s.Note([]byte(locksName))
	if e != api.OK {
		return state{}, e
	}
	if there && !x.takeLocks(locks) || !x.right() {
		return state{}, api.ErrForm
	}
	return x, api.OK
}

// numbers: all but the locks and what is kept of them, as bytes.
func (x state) numbers() []byte {
	return codec.Frame(codec.PutU(x.applied), codec.PutU(x.clock), codec.PutU(x.facts), x.newest)
}

// takeNumbers: the numbers are those of bytes; false: they are none.
func (x *state) takeNumbers(b []byte) bool {
	r := read(b)
	x.applied, x.clock, x.facts, x.newest = r.number(), r.number(), r.number(), r.bytes()
	return bytes.Equal(x.numbers(), b)
}

// locksNote: the locks and the marks as bytes.
func (x state) locksNote() []byte {
	var marks []byte
	for _, txn := range x.locks.All() {
		k := x.marks[txn]
		marks = append(marks, codec.OrdU(k.floor)...)
		marks = append(marks, codec.OrdU(k.top)...)
		if k.refused {
			marks = append(marks, 1)
		} else {
			marks = append(marks, 0)
		}
	}
	return codec.Frame(x.locks.Encode(), marks)
}

// takeLocks: the locks and the marks are those of bytes; false: they are no locksNote.
func (x *state) takeLocks(b []byte) bool {
	r := read(b)
	locks, e := lock.Decode(r.bytes())
	marks := r.bytes()
	if e != api.OK || len(marks) != markSize*len(locks.All()) {
		return false
	}
	x.locks, x.marks = locks, map[api.Txn]mark{}
	for i, txn := range locks.All() {
		at := i * markSize
		floor, at, _ := codec.GetOrdU(marks, at)
		top, at, _ := codec.GetOrdU(marks, at)
		x.marks[txn] = mark{floor: floor, top: top, refused: marks[at] > 0}
	}
	return bytes.Equal(x.locksNote(), b)
}

// right: can a machine have this state?
func (x state) right() bool {
	if x.clock > mostTs {
		return false
	}
	for txn, k := range x.marks {
		holds := len(x.locks.Held(txn)) > 0
		waits := x.locks.Status(txn) == lock.Waiting
		granted := k.floor > 0 && k.floor <= k.top && k.top <= x.clock+1
		nothing := k.floor == 0 && k.top == 0
		idle := !holds && !waits && !k.refused
		if tooGreat(txn) || holds && !granted || !holds && !nothing || waits && k.refused || idle {
			return false
		}
	}
	return true
}

// tooGreat: is it no name of a transaction that a command may have?
func tooGreat(x api.Txn) bool { return max(x.Session, x.Seq) > mostNumber }

// closed: up to here nothing will change any more. (No floor is above the clock and 1.)
func (x state) closed() uint64 {
	least := x.clock + 1
	for _, k := range x.marks {
		if k.floor > 0 {
			least = min(least, k.floor)
		}
	}
	return least - 1
}

// grant: a transaction was granted something.
func (x state) grant(txn api.Txn) {
	k := x.marks[txn]
	k.top = x.clock + 1
	if k.floor == 0 {
		k.floor = k.top
	}
	x.marks[txn] = k
}

// doneName: the name of a session's done number.
func doneName(session uint64) []byte { return append([]byte{doneMark}, codec.PutU(session)...) }

// recordName: the name of a transaction's record.
func recordName(x api.Txn) []byte {
	return append(append([]byte{recordMark}, codec.PutU(x.Session)...), codec.PutU(x.Seq)...)
}

// fact: the one of that name, and the name of the one that was the newest ahead of it.
func (m *Machine) fact(name []byte) (ahead, value []byte, there bool) {
	b, there, e := m.Note(name)
	if e != api.OK || !there {
		return nil, nil, false
	}
	r := read(b)
	return r.bytes(), r.bytes(), true
}

// done: the number of the last request of a session that is done, if one is.
func (m *Machine) done(session uint64) (uint64, bool) {
	_, value, there := m.fact(doneName(session))
	if !there {
		return 0, false
	}
	n, _, e := codec.GetU(value, 0)
	return n, e == api.OK
}
