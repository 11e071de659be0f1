package shard

import (
	"bytes"
	"cmp"
	"fmt"
	"maps"
	"math"
	"slices"
	"testing"

	"caisson/api"
	"caisson/lock"
)

// plain is a machine by the words of the document. What was committed is kept for ever, besides the versions that are there.
type plain struct {
	applied, clock, low uint64
	committed, there    map[string]map[uint64]api.Write
	locks               *lock.Table
	floor, top          map[api.Txn]uint64
	refused             map[api.Txn]bool
	done                map[uint64]uint64
	records             map[api.Txn]Record
}

func newPlain() *plain {
	return &plain{
		committed: map[string]map[uint64]api.Write{}, there: map[string]map[uint64]api.Write{}, locks: &lock.Table{},
		floor: map[api.Txn]uint64{}, top: map[api.Txn]uint64{}, refused: map[api.Txn]bool{}, done: map[uint64]uint64{}, records: map[api.Txn]Record{},
	}
}

func cloned(m map[string]map[uint64]api.Write) map[string]map[uint64]api.Write {
	out := map[string]map[uint64]api.Write{}
	for key, list := range m {
		out[key] = maps.Clone(list)
	}
	return out
}

func (p *plain) clone() *plain {
	out := *p
	out.committed, out.there = cloned(p.committed), cloned(p.there)
	out.locks, _ = lock.Decode(p.locks.Encode())
	out.floor, out.top, out.refused = maps.Clone(p.floor), maps.Clone(p.top), maps.Clone(p.refused)
	out.done, out.records = maps.Clone(p.done), maps.Clone(p.records)
	return &out
}

// ownRecord is a record that shares nothing.
func ownRecord(x Record) Record {
	out := Record{Commit: x.Commit, Ts: x.Ts, Reply: bytes.Clone(x.Reply)}
	for _, w := range x.Writes {
		out.Writes = append(out.Writes, api.Write{Key: bytes.Clone(w.Key), Value: bytes.Clone(w.Value), Gone: w.Gone})
	}
	return out
}

// do does a command (as it comes back from its bytes), with an index above the others.
func (p *plain) do(index uint64, c Cmd) Result {
	p.applied = index
	if c.Txn.Session > 4294967294 || c.Txn.Seq > 4294967294 || c.Kind != Lock && c.Ts > 4611686018427387904 {
		return Result{Err: api.ErrArg}
	}
	switch c.Kind {
	case Lock:
		return p.lock(c)
	case Decide:
		return p.decide(c)
	}
	return p.finish(c)
}

// ends: the greatest key is behind all others.
func ends(to []byte) string {
	if len(to) == 0 {
		return string(bytes.Repeat([]byte{255}, 2000))
	}
	return string(to)
}

func hasAll(h, r api.Range) bool {
	return string(h.From) <= string(r.From) && ends(r.To) <= ends(h.To) && (h.Excl || !r.Excl)
}

func (p *plain) covered(x api.Txn, r api.Range) bool {
	for _, h := range p.locks.Held(x) {
		if hasAll(h, r) {
			return true
		}
	}
	return false
}

func (p *plain) grant(list ...api.Txn) {
	for _, x := range list {
		p.top[x] = p.clock + 1
		if _, has := p.floor[x]; !has {
			p.floor[x] = p.clock + 1
		}
	}
}

func (p *plain) lock(c Cmd) Result {
	if n, some := p.done[c.Txn.Session]; some && n >= c.Txn.Seq {
		return Result{Err: api.ErrOld}
	}
	size, form := len(c.Ranges) > 64, len(c.Ranges) == 0
	for _, r := range c.Ranges {
		size = size || len(r.From) > 1024 || len(r.To) > 1024
		form = form || len(r.To) > 0 && string(r.To) <= string(r.From)
	}
	switch {
	case size:
		return Result{Err: api.ErrSize}
	case form:
		return Result{Err: api.ErrForm}
	case p.refused[c.Txn]:
		return Result{Status: 3}
	case p.locks.Status(c.Txn) == 2:
		return Result{Status: 2}
	}
	var ask []api.Range
	for _, r := range c.Ranges {
		if !p.covered(c.Txn, r) {
			ask = append(ask, r)
		}
	}
	if len(ask) > 0 {
		r, _ := p.locks.Ask(c.Txn, ask...)
		for _, x := range r.Victims {
			p.refused[x] = true
		}
		p.grant(r.Granted...)
		if r.Status != 1 {
			return Result{Status: r.Status}
		}
		p.grant(c.Txn)
	}
	out := Result{Status: 1, Ts: p.top[c.Txn]}
	for _, r := range c.Ranges {
		out.Pairs = append(out.Pairs, p.look(string(r.From), string(r.To), math.MaxUint64)...)
	}
	return out
}

func (p *plain) decide(c Cmd) Result {
	if x, some := p.records[c.Txn]; some {
		return Result{Record: x}
	}
	x := ownRecord(Record{Commit: c.Commit, Ts: c.Ts, Writes: c.Writes, Reply: c.Reply})
	if !c.Commit {
		x.Ts, x.Writes = 0, nil
	}
	n := len(x.Reply)
	for _, w := range x.Writes {
		n += len(w.Key) + len(w.Value) + 16
	}
	if n > 30000 || len(x.Writes) > 100 {
		return Result{Err: api.ErrSize}
	}
	p.records[c.Txn] = x
	return Result{Record: x}
}

// guard: is what is to be written as it must not be?
func (p *plain) guard(c Cmd) bool {
	n := 0
	for _, w := range c.Writes {
		n += len(w.Key) + len(w.Value)
		own := false
		for _, h := range p.locks.Held(c.Txn) {
			own = own || h.Excl && string(h.From) <= string(w.Key) && string(w.Key) < ends(h.To)
		}
		if !own || len(w.Key) > 400 || len(w.Value) > 30000 || w.Gone && len(w.Value) > 0 {
			return true
		}
	}
	return len(c.Writes) > 100 || n > 60000
}

func (p *plain) finish(c Cmd) Result {
	var out Result
	if c.Commit && p.locks.Status(c.Txn) != 0 {
		if p.guard(c) {
			out.Err = api.ErrGuard
		} else if c.Ts < p.top[c.Txn] {
			out.Err = api.ErrOld
		} else {
			p.write(c.Ts, ownRecord(Record{Writes: c.Writes}).Writes)
		}
	}
	if c.Commit && out.Err == 0 {
		p.clock = max(p.clock, c.Ts)
	}
	delete(p.floor, c.Txn)
	delete(p.top, c.Txn)
	delete(p.refused, c.Txn)
	p.grant(p.locks.Release(c.Txn)...)
	if n, some := p.done[c.Txn.Session]; !some || n < c.Txn.Seq {
		p.done[c.Txn.Session] = c.Txn.Seq
	}
	return out
}

func (p *plain) write(ts uint64, writes []api.Write) {
	for _, w := range writes {
		for _, m := range []map[string]map[uint64]api.Write{p.committed, p.there} {
			if m[string(w.Key)] == nil {
				m[string(w.Key)] = map[uint64]api.Write{}
			}
			m[string(w.Key)][ts] = w
		}
	}
}

// closed: the least floor of all, less 1; without any the clock.
func (p *plain) closed() uint64 {
	if len(p.floor) == 0 {
		return p.clock
	}
	return slices.Min(slices.Collect(maps.Values(p.floor))) - 1
}

// look: what is at a timestamp, by what was committed.
func (p *plain) look(from, to string, ts uint64) []api.Pair {
	var out []api.Pair
	for _, key := range slices.Sorted(maps.Keys(p.committed)) {
		newest, found := uint64(0), false
		for at := range p.committed[key] {
			if at <= ts && at >= newest {
				newest, found = at, true
			}
		}
		w := p.committed[key][newest]
		if found && !w.Gone && from <= key && (to == "" || key < to) {
			out = append(out, api.Pair{Key: []byte(key), Value: w.Value})
		}
	}
	return out
}

// at names a version.
type at struct {
	key string
	ts  uint64
}

// versions: the names of those that are there, by rising keys, of one key by falling timestamps.
func (p *plain) versions() []at {
	var out []at
	for key, list := range p.there {
		for ts := range list {
			out = append(out, at{key, ts})
		}
	}
	slices.SortFunc(out, func(a, b at) int { return cmp.Or(cmp.Compare(a.key, b.key), cmp.Compare(b.ts, a.ts)) })
	return out
}

// tidy: how many versions go.
func (p *plain) tidy(below uint64) int {
	p.low = max(p.low, min(below, p.closed()))
	var out []at
	for _, x := range p.versions() {
		superseded, oldest := false, true
		for ts := range p.there[x.key] {
			superseded = superseded || ts > x.ts && ts <= p.low
			oldest = oldest && ts >= x.ts
		}
		idle := superseded || p.there[x.key][x.ts].Gone && oldest && x.ts <= p.low
		if idle && len(out) < 50 {
			out = append(out, x)
		}
	}
	for _, x := range out {
		delete(p.there[x.key], x.ts)
	}
	return len(out)
}

func samePairs(a, b []api.Pair) bool {
	return slices.EqualFunc(a, b, func(x, y api.Pair) bool { return bytes.Equal(x.Key, y.Key) && bytes.Equal(x.Value, y.Value) })
}

func sameWrites(a, b []api.Write) bool {
	return slices.EqualFunc(a, b, func(x, y api.Write) bool {
		return bytes.Equal(x.Key, y.Key) && bytes.Equal(x.Value, y.Value) && x.Gone == y.Gone
	})
}

func sameRanges(a, b []api.Range) bool {
	return slices.EqualFunc(a, b, func(x, y api.Range) bool {
		return bytes.Equal(x.From, y.From) && bytes.Equal(x.To, y.To) && x.Excl == y.Excl
	})
}

func sameRecord(a, b Record) bool {
	return a.Commit == b.Commit && a.Ts == b.Ts && sameWrites(a.Writes, b.Writes) && bytes.Equal(a.Reply, b.Reply)
}

func sameResult(a, b Result) bool {
	return a.Err == b.Err && a.Status == b.Status && a.Ts == b.Ts && samePairs(a.Pairs, b.Pairs) && sameRecord(a.Record, b.Record)
}

// others are transactions that no script has.
var others = []api.Txn{{Session: 99}, {Session: 99, Seq: 1}, {Session: 1, Seq: 99}, {Session: math.MaxUint64, Seq: math.MaxUint64}, {Session: 1 << 32, Seq: 1}}

// agrees looks whether a machine says what the plain one does.
func agrees(t *testing.T, what string, m *Machine, p *plain) {
	t.Helper()
	if m.Applied() != p.applied || m.Clock() != p.clock || m.Closed() != p.closed() || m.Low() != p.low {
		t.Fatalf("%s: applied %d, clock %d, closed %d, low %d; want %d, %d, %d, %d", what, m.Applied(), m.Clock(), m.Closed(), m.Low(), p.applied, p.clock, p.closed(), p.low)
	}
	if !slices.Equal(m.Open(), p.locks.All()) {
		t.Fatalf("%s: Open = %v; want %v", what, m.Open(), p.locks.All())
	}
	for _, x := range slices.Concat(p.locks.All(), others, slices.Collect(maps.Keys(p.records))) {
		want := p.locks.Status(x)
		if p.refused[x] {
			want = 3
		}
		if got := m.Known(x); got != want {
			t.Fatalf("%s: Known(%v) = %d; want %d", what, x, got, want)
		}
		r, there := m.Record(x)
		if wanted, some := p.records[x]; there != some || !sameRecord(r, wanted) {
			t.Fatalf("%s: Record(%v) = %v, %v; want %v, %v", what, x, r, there, wanted, some)
		}
	}
	agreesInLooks(t, what, m, p)
	agreesInVersions(t, what, m, p)
}

func agreesInLooks(t *testing.T, what string, m *Machine, p *plain) {
	t.Helper()
	times := []uint64{0, p.low - 1, p.low, p.low + 1, p.clock, p.clock + 1, p.closed() - 1, p.closed(), p.closed() + 1, 1 << 62, math.MaxUint64}
	for _, ts := range times {
		for _, r := range [][2]string{{"", ""}, {"", "b"}, {"a", ""}, {"a", "c"}, {"c", "a"}, {"\xff", ""}} {
			got, e := m.Look([]byte(r[0]), []byte(r[1]), ts)
			switch {
			case ts < p.low:
				if e != api.ErrOld || got != nil {
					t.Fatalf("%s: Look(%q, %d) = %v, %v, below Low", what, r, ts, got, e)
				}
			case ts > p.closed():
				if e != api.ErrWait || got != nil {
					t.Fatalf("%s: Look(%q, %d) = %v, %v, above Closed", what, r, ts, got, e)
				}
			default:
				if want := p.look(r[0], r[1], ts); e != api.OK || !samePairs(got, want) {
					t.Fatalf("%s: Look(%q, %d) = %q, %v; want %q", what, r, ts, got, e, want)
				}
			}
		}
	}
}

func agreesInVersions(t *testing.T, what string, m *Machine, p *plain) {
	t.Helper()
	list, e := m.Versions()
	want := p.versions()
	if e != api.OK || len(list) != len(want) {
		t.Fatalf("%s: Versions = %v, %v; want %v", what, list, e, want)
	}
	for i, v := range list {
		w := p.there[want[i].key][want[i].ts]
		if string(v.Key) != want[i].key || v.Ts != want[i].ts || !bytes.Equal(v.Value, w.Value) || v.Gone != w.Gone {
			t.Fatalf("%s: the version %d is %v; want %v, %v", what, i, v, want[i], w)
		}
	}
}

// txn is a transaction.
func txn(session, seq uint64) api.Txn { return api.Txn{Session: session, Seq: seq} }

// put is a Write of a value.
func put(key, value string) api.Write { return api.Write{Key: []byte(key), Value: []byte(value)} }

// gone is a Write that takes a key's value away.
func gone(key string) api.Write { return api.Write{Key: []byte(key), Gone: true} }

// excl is a range for oneself alone.
func excl(from, to string) api.Range {
	return api.Range{From: []byte(from), To: []byte(to), Excl: true}
}

// shared is a range for others, too.
func shared(from, to string) api.Range { return api.Range{From: []byte(from), To: []byte(to)} }

func locking(x api.Txn, ranges ...api.Range) Cmd { return Cmd{Kind: Lock, Txn: x, Ranges: ranges} }

func deciding(x api.Txn, ts uint64, reply string, writes ...api.Write) Cmd {
	return Cmd{Kind: Decide, Txn: x, Commit: true, Ts: ts, Writes: writes, Reply: []byte(reply)}
}

func committing(x api.Txn, ts uint64, writes ...api.Write) Cmd {
	return Cmd{Kind: Finish, Txn: x, Commit: true, Ts: ts, Writes: writes}
}

func dropping(x api.Txn) Cmd { return Cmd{Kind: Finish, Txn: x} }

// told is a command as a text for messages.
func told(c Cmd) string {
	if len(c.Ranges)+len(c.Writes)+len(c.Reply) > 20 {
		return fmt.Sprintf("{%d %v %d ranges %v %d %d writes, a reply of %d}", c.Kind, c.Txn, len(c.Ranges), c.Commit, c.Ts, len(c.Writes), len(c.Reply))
	}
	return fmt.Sprintf("%+v", c)
}
