package replica

import (
	"bytes"
	"fmt"
	"maps"
	"math/rand/v2"
	"slices"
	"testing"

	"caisson/api"
	"caisson/disk"
	"caisson/lsm"
	"caisson/mvcc"
	"caisson/raft"
	"caisson/shard"
)

// place of an entry: two entries with one term and one index are the same.
type place struct{ term, index uint64 }

// agreed is an entry that is agreed on, what it comes to, and what a machine is behind it.
type agreed struct {
	term    uint64
	data    []byte
	result  shard.Result
	machine *shard.Machine
}

// peer is a node of a net.
type peer struct {
	*Replica
	d       *disk.Disk
	applied uint64     // what it had applied behind its last event
	state   raft.State // of then
	quiet   bool       // was nothing done since then that could be there or not?
}

// net is a few replicas, and what is on its way among them.
type net struct {
	*testing.T
	o        Options
	peers    []*peer
	way      []raft.Msg
	proposed map[place][]byte
	all      []agreed // from index 1 on
	next     uint64   // of a session
	seen     map[string]int
}

func newNet(t *testing.T, n, room int, o Options, seen map[string]int) *net {
	w := &net{T: t, o: o, proposed: map[place][]byte{}, seen: seen}
	for range n {
		w.peers = append(w.peers, &peer{d: disk.New(room), state: raft.State{Hard: raft.Hard{Vote: -1}}, quiet: true})
	}
	for id := range n {
		w.start(id)
	}
	return w
}

// machineOf is a machine on a disk of its own.
func machineOf(t *testing.T) *shard.Machine {
	t.Helper()
	m, e := shard.Open(storeIn(t, disk.New(1<<30)))
	if e != api.OK {
		t.Fatalf("shard.Open = %v", e)
	}
	return m
}

// storeIn is a store on a disk.
func storeIn(t *testing.T, d *disk.Disk) mvcc.Store {
	t.Helper()
	g, e := lsm.Open(d, "plain", lsm.Options{Mem: 1 << 20, Block: 1000, Fan: 4})
	if e != api.OK {
		t.Fatalf("lsm.Open = %v", e)
	}
	return mvcc.Of(g)
}

// behind is what a machine is that has applied what is agreed on up to an index.
func (w *net) behind(index uint64) *shard.Machine {
	if index == 0 {
		return machineOf(w.T)
	}
	return w.all[index-1].machine
}

// agree notes what is agreed on.
func (w *net) agree(index, term uint64) {
	w.Helper()
	if index <= uint64(len(w.all)) {
		if x := w.all[index-1]; x.term != term {
			w.Fatalf("at %d agreed on are the terms %d and %d", index, x.term, term)
		}
		return
	}
	if index != uint64(len(w.all))+1 {
		w.Fatalf("at %d something is agreed on, but %d are known", index, len(w.all))
	}
	dump, e := w.behind(index - 1).Dump()
	if e != api.OK {
		w.Fatalf("Dump = %v", e)
	}
	m := machineOf(w.T)
	if index > 1 {
		if m, e = shard.Restore(storeIn(w.T, disk.New(1<<30)), dump); e != api.OK {
			w.Fatalf("Restore = %v", e)
		}
	}
	data := w.proposed[place{term, index}] // none: it is what a leader begins with
	r, e := m.Apply(index, data)
	if e != api.OK {
		w.Fatalf("Apply = %v", e)
	}
	w.all = append(w.all, agreed{term, data, r, m})
}

// start opens a node.
func (w *net) start(id int) {
	w.Helper()
	x := w.peers[id]
	before := x.Replica
	r, e := Open(x.d, "g/", id, len(w.peers), w.o)
	if e != api.OK {
		w.Fatalf("Open = %v", e)
	}
	x.Replica = r
	if len(w.peers) == 1 { // alone it leads also while there is no room to save its term, in which it may lead again
		maps.DeleteFunc(w.proposed, func(at place, _ []byte) bool { return at.index > r.Raft().Last() })
	}
	for i := uint64(len(w.all)) + 1; i <= r.Applied(); i++ { // it died ahead of telling that
		term, known := before.Raft().TermAt(i)
		if !known || i > before.Raft().Commit() {
			w.Fatalf("node %d: opened again it has applied %d, which isn't agreed on", id, i)
		}
		w.agree(i, term)
	}
	w.opened(id)
}

// opened looks whether a node that was opened again has what it had.
func (w *net) opened(id int) { // P20.2
	w.Helper()
	x := w.peers[id]
	s := x.Raft().State
	if x.quiet && (!sameState(s, x.state) || x.Applied() != x.applied) {
		w.Fatalf("node %d: opened again it is %+v, applied %d; was %+v, %d", id, s, x.Applied(), x.state, x.applied)
	}
	if x.Applied() < x.applied || s.Term < x.state.Term || s.Base < x.state.Base || s.Term == x.state.Term && x.state.Vote >= 0 && s.Vote != x.state.Vote {
		w.Fatalf("node %d: opened again it is %+v, applied %d; was %+v, %d", id, s, x.Applied(), x.state, x.applied)
	}
	if x.Raft().Role() != raft.Follower || x.Raft().Commit() != s.Base {
		w.Fatalf("node %d: opened again its role is %d, its commit %d", id, x.Raft().Role(), x.Raft().Commit())
	}
	w.keep(x)
	w.alike(fmt.Sprintf("node %d, opened", id), x.Machine)
}

// keep keeps what a node is.
func (w *net) keep(x *peer) {
	x.applied, x.quiet = x.Applied(), true
	x.state = x.Raft().State
	x.state.Entries = x.Raft().From(0)
}

func sameState(a, b raft.State) bool {
	return a.Hard == b.Hard && a.Base == b.Base && a.BaseTerm == b.BaseTerm && slices.EqualFunc(a.Entries, b.Entries, func(x, y raft.Entry) bool {
		return x.Term == y.Term && bytes.Equal(x.Data, y.Data)
	})
}

// alike looks whether a machine is what the agreed entries make up to what it has applied.
func (w *net) alike(what string, m *shard.Machine) { // P20.1
	w.Helper()
	if m.Applied() > uint64(len(w.all)) {
		w.Fatalf("%s: it has applied %d, and %d are agreed on", what, m.Applied(), len(w.all))
	}
	want := w.behind(m.Applied())
	if m.Clock() != want.Clock() || m.Closed() != want.Closed() || !slices.Equal(m.Open(), want.Open()) || m.Low() > m.Closed() {
		w.Fatalf("%s: applied %d, clock %d, closed %d, low %d, open %v; want clock %d, closed %d, open %v", what, m.Applied(), m.Clock(), m.Closed(), m.Low(), m.Open(), want.Clock(), want.Closed(), want.Open())
	}
	for session := range w.next + 1 {
		x := api.Txn{Session: session, Seq: 1}
		a, ok := m.Record(x)
		b, there := want.Record(x)
		if m.Known(x) != want.Known(x) || ok != there || !sameResult(shard.Result{Record: a}, shard.Result{Record: b}) {
			w.Fatalf("%s: Known(%v) = %d, Record %v, %v; want %d, %v, %v", what, x, m.Known(x), a, ok, want.Known(x), b, there)
		}
	}
	for _, ts := range []uint64{m.Low(), (m.Low() + m.Closed()) / 2, m.Closed()} {
		a, e := m.Look(nil, nil, ts)
		b, e2 := want.Look(nil, nil, ts)
		if e != api.OK || e2 != api.OK || !sameResult(shard.Result{Pairs: a}, shard.Result{Pairs: b}) {
			w.Fatalf("%s: Look(%d) = %q, %v; want %q, %v", what, ts, a, e, b, e2)
		}
	}
}

func sameResult(a, b shard.Result) bool {
	pairs := slices.EqualFunc(a.Pairs, b.Pairs, func(x, y api.Pair) bool { return bytes.Equal(x.Key, y.Key) && bytes.Equal(x.Value, y.Value) })
	writes := slices.EqualFunc(a.Record.Writes, b.Record.Writes, func(x, y api.Write) bool {
		return bytes.Equal(x.Key, y.Key) && bytes.Equal(x.Value, y.Value) && x.Gone == y.Gone
	})
	return a.Err == b.Err && a.Status == b.Status && a.Ts == b.Ts && pairs && writes && a.Record.Commit == b.Record.Commit && a.Record.Ts == b.Record.Ts && bytes.Equal(a.Record.Reply, b.Record.Reply)
}

// event is an event of a node, and what must hold behind it. False: its disk has died.
func (w *net) event(id int, do func(r *Replica) (Out, api.Errno)) (Out, api.Errno) {
	w.Helper()
	x := w.peers[id]
	before := x.applied
	out, e := do(x.Replica)
	w.seen[fmt.Sprint("answers ", e)]++
	if e != api.OK {
		if len(out.Msgs)+len(out.Done) > 0 || out.Index != 0 {
			w.Fatalf("node %d: beside %v there is %+v", id, e, out)
		}
		x.quiet = x.quiet && e != api.ErrDead && e != api.ErrFull
		if e == api.ErrDead {
			return out, e
		}
	}
	if x.Applied() < before || x.Raft().Commit() < x.state.Base {
		w.Fatalf("node %d: applied %d, commit %d; was %d, with the base %d", id, x.Applied(), x.Raft().Commit(), before, x.state.Base)
	}
	w.applied(id, before, out)
	w.snaps(id, out)
	if e == api.OK {
		w.keep(x)
		w.short(id)
		if x.applied > before {
			w.alike(fmt.Sprintf("node %d", id), x.Machine)
		}
	}
	w.way = append(w.way, out.Msgs...)
	return out, e
}

// applied looks at what a node tells that it has applied: all that came to it, unless its machine was restored.
func (w *net) applied(id int, before uint64, out Out) {
	w.Helper()
	x := w.peers[id]
	first := x.Applied() - uint64(len(out.Done)) + 1
	if first != before+1 {
		w.seen["restored"]++
		if first <= before {
			w.Fatalf("node %d: of %d applied behind %d it tells %d", id, x.Applied(), before, len(out.Done))
		}
	}
	for i, done := range out.Done {
		if done.Index != first+uint64(i) {
			w.Fatalf("node %d: the index %d is told behind %d", id, done.Index, first+uint64(i)-1)
		}
		w.agree(done.Index, done.Term)
		if want := w.all[done.Index-1].result; !sameResult(done.Result, want) {
			w.Fatalf("node %d: at %d the result is %+v; want %+v", id, done.Index, done.Result, want)
		}
	}
}

// snaps looks at the Snaps that a node sends.
func (w *net) snaps(id int, out Out) {
	w.Helper()
	x := w.peers[id]
	for _, m := range out.Msgs {
		if m.Kind != raft.Snap {
			continue
		}
		w.seen["snaps"]++
		got, e := shard.Restore(storeIn(w.T, disk.New(1<<30)), m.Data)
		term, known := x.Raft().TermAt(x.Applied())
		if e != api.OK || got.Applied() != m.Index || m.Index != x.Applied() || !known || m.LogTerm != term || m.Term != x.Raft().Term {
			w.Fatalf("node %d: applied %d, sends a Snap of %d, with the term %d; Restore = %v", id, x.Applied(), m.Index, m.LogTerm, e)
		}
		w.alike("a Snap", got)
	}
}

// short looks whether a log keeps no more entries than it may.
func (w *net) short(id int) {
	w.Helper()
	x := w.peers[id]
	kept := min(x.Applied(), x.Raft().Commit()) - x.Raft().Base
	if kept > uint64(max(w.o.Keep, 1)) && w.seen["full"] == 0 {
		w.Fatalf("node %d: the log keeps %d entries that are applied", id, kept)
	}
}

// crash is a crash of a node, which is opened again.
func (w *net) crash(id int, keeps ...int) {
	w.Helper()
	w.peers[id].d.Crash(keeps...)
	w.start(id)
}

// propose proposes a command.
func (w *net) propose(id int, data []byte) (Out, api.Errno) {
	w.Helper()
	r := w.peers[id].Raft()
	if r.Role() == raft.Leader {
		at := place{r.Term, r.Last() + 1}
		if _, there := w.proposed[at]; there {
			w.Fatalf("two are proposed at %v", at)
		}
		w.proposed[at] = data
	}
	return w.event(id, func(r *Replica) (Out, api.Errno) { return r.Propose(data) })
}

// command is a command that some numbers tell, of few transactions, so that they meet.
func (w *net) command(r *rand.Rand) []byte {
	if r.IntN(12) == 0 {
		return [][]byte{nil, []byte("no command")}[r.IntN(2)]
	}
	w.next = min(w.next+uint64(r.IntN(2)), 40)
	x := api.Txn{Session: w.next - min(w.next, uint64(r.IntN(4))), Seq: 1}
	key := []byte{byte('a' + r.IntN(3))}
	all := api.Range{From: key, To: append(bytes.Clone(key), 'z'), Excl: r.IntN(3) > 0}
	k := r.IntN(8)
	switch {
	case k < 3:
		return shard.Encode(shard.Cmd{Kind: shard.Lock, Txn: x, Ranges: []api.Range{all}})
	case k < 4:
		return shard.Encode(shard.Cmd{Kind: shard.Decide, Txn: x, Commit: r.IntN(2) == 0, Ts: 5, Reply: []byte{byte(r.IntN(9))}})
	}
	ts := uint64(len(w.all) + r.IntN(3))
	return shard.Encode(shard.Cmd{Kind: shard.Finish, Txn: x, Commit: k < 7, Ts: ts, Writes: []api.Write{{Key: key, Value: []byte(fmt.Sprint(ts))}}})
}

// comes is a message that comes to its node. False: the node's disk has died.
func (w *net) comes(at int, stays bool) (int, api.Errno) {
	w.Helper()
	m := w.way[at]
	if !stays {
		w.way = slices.Delete(w.way, at, at+1)
	}
	_, e := w.event(m.To, func(r *Replica) (Out, api.Errno) { return r.Step(m) })
	return m.To, e
}

// step is a step of a script, of two numbers.
func (w *net) step(op, arg int, r *rand.Rand) {
	w.Helper()
	id := arg % len(w.peers)
	e := api.OK
	switch {
	case op < 8:
		_, e = w.event(id, (*Replica).Tick)
	case op < 20:
		if len(w.way) > 0 {
			id, e = w.comes(arg%len(w.way), op == 8)
		}
	case op == 20:
		if len(w.way) > 0 {
			w.way = slices.Delete(w.way, arg%len(w.way), arg%len(w.way)+1)
		}
	case op < 27:
		for i, x := range w.peers {
			if x.Raft().Role() == raft.Leader {
				id = i
			}
		}
		_, e = w.propose(id, w.command(r))
	case op == 27:
		w.peers[id].d.Arm(arg / len(w.peers) % 15)
	case op == 28:
		w.crash(id, arg)
	case op == 29:
		_, e = w.peers[id].Rest()
	case op == 30: // all that is on its way to a node is lost
		w.way = slices.DeleteFunc(w.way, func(m raft.Msg) bool { return m.To == id })
	case op == 31:
		for range 12 {
			if len(w.way) > 0 && e == api.OK {
				id, e = w.comes(0, false)
			}
		}
	}
	if len(w.way) > 60 {
		w.way = slices.Delete(w.way, 0, len(w.way)-60)
	}
	if w.peers[id].d.Dead() {
		w.seen["deaths"]++
		w.peers[id].quiet = false
		w.crash(id, []int{arg, arg / 3, arg * 7}[:arg%4%3]...)
	}
}

// calm lets ticks go on and all messages come.
func (w *net) calm(rounds int) {
	w.Helper()
	for _, x := range w.peers {
		x.d.Arm(-1)
	}
	w.way = nil
	for range rounds {
		for id := range w.peers {
			w.event(id, (*Replica).Tick)
			for i := 0; i < 500 && len(w.way) > 0; i++ {
				w.comes(0, false)
			}
		}
	}
}

// goesOn looks whether, in the calm, there is a leader, what it is asked to is agreed on, and all have applied all.
func (w *net) goesOn() { // P20.3, P20.4
	w.Helper()
	for i := range 3 {
		w.calm(40)
		leader := -1
		for id, x := range w.peers {
			if x.Raft().Role() == raft.Leader {
				leader = id
			}
		}
		if leader < 0 {
			w.Fatalf("nobody leads in the calm")
		}
		out, e := w.propose(leader, shard.Encode(shard.Cmd{Kind: shard.Decide, Txn: api.Txn{Session: 40, Seq: 1}, Reply: []byte{byte(i)}}))
		if e != api.OK {
			w.Fatalf("Propose = %v", e)
		}
		w.calm(2)
		for id, x := range w.peers {
			if x.Applied() != out.Index || !w.peers[leader].has(x) {
				w.Fatalf("in the calm node %d has applied %d of %d", id, x.Applied(), out.Index)
			}
		}
	}
}

// has: have both the same record of the transaction 40 1?
func (x *peer) has(y *peer) bool {
	a, ok := x.Record(api.Txn{Session: 40, Seq: 1})
	b, there := y.Record(api.Txn{Session: 40, Seq: 1})
	return ok && there && bytes.Equal(a.Reply, b.Reply)
}

// kinds are options of which some keep little, and some much.
var kinds = []Options{{Limit: 3, Keep: 1, Lsm: lsm.Options{Mem: 1 << 20, Block: 1000, Fan: 4}}, {Limit: 2, Keep: 5, Lsm: lsm.Options{Mem: 400, Block: 60, Fan: 2}}, {Limit: 3, Keep: 1000, Lsm: lsm.Options{Mem: 5000, Block: 100, Fan: 3}}, {Limit: 3, Keep: -7}}

// play does a script's steps, each of two bytes, and then lets all be calm.
func play(t *testing.T, n, room int, o Options, script []byte, seen map[string]int) {
	w := newNet(t, n, room, o, seen)
	r := rand.New(rand.NewPCG(uint64(n), uint64(len(script))))
	w.calm(10)
	for i := 0; i+1 < len(script); i += 2 {
		w.step(int(script[i]%32), int(script[i+1]), r)
	}
	if seen["full"] > 0 { // a disk that is full needn't go on
		w.calm(5)
		return
	}
	w.goesOn()
}

// anyScript is a script of so many steps.
func anyScript(seed uint64, steps int) []byte {
	r := rand.New(rand.NewPCG(seed, 20))
	script := make([]byte, 2*steps)
	for i := range script {
		script[i] = byte(r.Uint32())
	}
	return script
}

func TestNets(t *testing.T) { // P20.1, P20.2, P20.3, P20.4
	seen := map[string]int{}
	for seed := range uint64(600) {
		play(t, []int{3, 3, 5, 1, 2, 4}[seed%6], 1<<24, kinds[int(seed/6)%len(kinds)], anyScript(seed, 250), seen)
	}
	if seen["restored"] < 20 || seen["snaps"] < 20 || seen["deaths"] < 20 || seen["answers 14"] < 20 {
		t.Errorf("seen: %v", seen)
	}
}

func TestFullNets(t *testing.T) { // P20.1, P20.2: as TestNets, on disks that fill up
	seen := map[string]int{"full": 1}
	for seed := range uint64(360) {
		play(t, []int{3, 1, 2}[seed%3], []int{1500, 4000, 9000}[seed/3%3], kinds[int(seed/9)%len(kinds)], anyScript(seed+1000, 250), seen)
	}
	if seen["answers 8"] < 20 || seen["deaths"] < 20 {
		t.Errorf("seen: %v", seen)
	}
}

// FuzzNets: as TestNets, with scripts that are looked for.
func FuzzNets(f *testing.F) { // P1, P20.1, P20.2, P20.3, P20.4
	f.Add(anyScript(1, 60), uint8(3), uint8(0))
	f.Add(anyScript(2, 60), uint8(1), uint8(1))
	f.Fuzz(func(t *testing.T, script []byte, n, kind uint8) {
		play(t, int(n%5)+1, 1<<24, kinds[int(kind)%len(kinds)], script[:min(len(script), 2*100)], map[string]int{})
	})
}
