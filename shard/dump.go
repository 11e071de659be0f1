package shard

import (
	"bytes"
	"cmp"
	"slices"

	"caisson/api"
	"caisson/codec"
	"caisson/mvcc"
)

// whole: all that a machine is.
type whole struct {
	state
	low      uint64
	versions []mvcc.Version // as Versions tells them
	known    []api.Pair     // the facts, the newest first
}

// Dump: all that it is.
func (m *Machine) Dump() ([]byte, api.Errno) {
	w := whole{state: m.state, low: m.Low()}
	var e api.Errno
	if w.versions, e = m.Versions(); e != api.OK {
		return nil, e
	}
	name := m.newest
	for range m.facts {
		ahead, value, there := m.fact(name)
		if !there {
			return nil, api.ErrForm
		}
		w.known = append(w.known, api.Pair{Key: name, Value: value})
		name = ahead
	}
	return w.bytes(), api.OK
}

// Restore: the machine that was dumped, in an empty store.
func Restore(s mvcc.Store, b []byte) (*Machine, api.Errno) {
	w, ok := wholeOf(b)
	switch {
	case !ok:
		return nil, api.ErrForm
	case s.Seq() > 0:
		return nil, api.ErrThere
	}
	if e := w.fill(s); e != api.OK {
		return nil, e
	}
	return Open(s)
}

// bytes: all of it as bytes.
func (w whole) bytes() []byte {
	var versions, known [][]byte
	for _, v := range w.versions {
		versions = append(versions, codec.Frame(v.Key, codec.PutU(v.Ts), v.Value, flag(v.Gone)))
	}
	for _, p := range w.known {
		known = append(known, p.Key, p.Value)
	}
	return codec.Frame(codec.PutU(w.low), w.numbers(), w.locksNote(), codec.Frame(versions...), codec.Frame(known...))
}

// wholeOf: what was dumped; false: these aren't a dump's bytes.
func wholeOf(b []byte) (whole, bool) {
	r := read(b)
	w := whole{low: r.number()}
	if !w.takeNumbers(r.bytes()) || !w.takeLocks(r.bytes()) {
		return whole{}, false
	}
	for versions := read(r.bytes()); len(*versions) > 0; {
		v := read(versions.bytes())
		w.versions = append(w.versions, mvcc.Version{Key: v.bytes(), Ts: v.number(), Value: v.bytes(), Gone: v.flag()})
	}
	for known := read(r.bytes()); len(*known) > 0; {
		w.known = append(w.known, api.Pair{Key: known.bytes(), Value: known.bytes()})
	}
	right := w.state.right() && w.low <= w.closed() && w.rightVersions() && w.rightFacts()
	return w, right && bytes.Equal(w.bytes(), b)
}

// rightVersions: can a machine with that clock have these versions?
func (w whole) rightVersions() bool {
	for i, v := range w.versions {
		if !writable(api.Write{Key: v.Key, Value: v.Value, Gone: v.Gone}) || v.Ts == 0 || v.Ts > w.clock {
			return false
		}
		if i > 0 && order(w.versions[i-1], v) >= 0 {
			return false
		}
	}
	return true
}

// order: how Versions has them.
func order(a, b mvcc.Version) int {
	return cmp.Or(codec.Cmp(a.Key, b.Key), cmp.Compare(b.Ts, a.Ts))
}

// rightFacts: are these facts, each of a name of its own?
func (w whole) rightFacts() bool {
	if uint64(len(w.known)) != w.facts || w.facts == 0 && len(w.newest) > 0 || w.facts > 0 && !bytes.Equal(w.known[0].Key, w.newest) {
		return false
	}
	seen := map[string]int{}
	for _, p := range w.known {
		seen[string(p.Key)]++
		if !isFact(p) || seen[string(p.Key)] > 1 {
			return false
		}
	}
	return true
}

// isFact: is it a done number or a record, under its name?
func isFact(p api.Pair) bool {
	if len(p.Key) == 0 {
		return false
	}
	session, at, _ := codec.GetU(p.Key, 1)
	if p.Key[0] == doneMark {
		n, _, _ := codec.GetU(p.Value, 0)
		return bytes.Equal(p.Key, doneName(session)) && bytes.Equal(p.Value, codec.PutU(n)) && max(session, n) <= mostNumber
	}
	seq, _, _ := codec.GetU(p.Key, at)
	txn := api.Txn{Session: session, Seq: seq}
	x := recordOf(p.Value)
	decided := x.Ts <= mostTs && (x.Commit || x.Ts == 0 && len(x.Writes) == 0)
	return bytes.Equal(p.Key, recordName(txn)) && bytes.Equal(p.Value, x.bytes()) && !tooGreat(txn) && x.fits() && decided
}

// fill: all of it goes into an empty store. The numbers come last: without them a store isn't a machine's.
func (w whole) fill(s mvcc.Store) api.Errno {
	f := filler{Store: s}
	byTime := slices.Clone(w.versions)
	slices.SortStableFunc(byTime, func(a, b mvcc.Version) int { return cmp.Compare(a.Ts, b.Ts) })
	for _, v := range byTime {
		if e := f.version(v); e != api.OK {
			return e
		}
	}
	for i, p := range w.known {
		var ahead []byte
		if i+1 < len(w.known) {
			ahead = w.known[i+1].Key
		}
		if e := f.note(api.Pair{Key: p.Key, Value: codec.Frame(ahead, p.Value)}); e != api.OK {
			return e
		}
	}
	if e := f.flush(); e != api.OK {
		return e
	}
	if e := w.raise(s); e != api.OK {
		return e
	}
	numbers := api.Pair{Key: []byte(numbersName), Value: w.numbers()}
	locks := api.Pair{Key: []byte(locksName), Value: w.locksNote()}
	return s.Apply(w.low, nil, numbers, locks)
}

// raise: the store's Low becomes what it was. A Collect alone does that, which takes away the first version that nobody needs: so one that wasn't dumped is put there. (It takes the place of another one only where that is the one that would go.)
func (w whole) raise(s mvcc.Store) api.Errno {
	if w.low == 0 {
		return api.OK
	}
	ts := w.low
	for _, v := range w.versions {
		if len(v.Key) == 0 && v.Ts <= w.low {
			ts = v.Ts - 1
			break
		}
	}
	if e := s.Apply(ts, []api.Write{{Gone: true}}); e != api.OK {
		return e
	}
	_, e := s.Collect(w.low, 1)
	return e
}

// filler puts much into a store, in batches that aren't too great.
type filler struct {
	mvcc.Store
	ts     uint64 // of the writes
	writes []api.Write
	notes  []api.Pair
	size   int
}

// The filler's batches have no more parts than these, and no more bytes, but for one part.
const (
	fullCount = 100
	fullBytes = 100000
)

// version: one is put in.
func (f *filler) version(v mvcc.Version) api.Errno {
	if v.Ts != f.ts {
		if e := f.flush(); e != api.OK {
			return e
		}
		f.ts = v.Ts
	}
	f.writes = append(f.writes, api.Write{Key: v.Key, Value: v.Value, Gone: v.Gone})
	return f.count(len(v.Key) + len(v.Value))
}

// note: one is put in.
func (f *filler) note(p api.Pair) api.Errno {
	f.notes = append(f.notes, p)
	return f.count(len(p.Key) + len(p.Value))
}

// count: a part with so many bytes was put in.
func (f *filler) count(size int) api.Errno {
	f.size += size
	if f.size < fullBytes && len(f.writes)+len(f.notes) < fullCount {
		return api.OK
	}
	return f.flush()
}

// flush: what was put in is in the store.
func (f *filler) flush() api.Errno {
	e := f.Apply(f.ts, f.writes, f.notes...)
	f.writes, f.notes, f.size = nil, nil, 0
	return e
}
