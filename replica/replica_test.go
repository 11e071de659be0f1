package replica

import (
	"bytes"
	"fmt"
	"math"
	"slices"
	"strings"
	"testing"

	"caisson/api"
	"caisson/crc"
	"caisson/disk"
	"caisson/lsm"
	"caisson/raft"
	"caisson/raftlog"
	"caisson/shard"
)

// locking is a Lock of a key.
func locking(session uint64, key string) []byte {
	return shard.Encode(shard.Cmd{Kind: shard.Lock, Txn: api.Txn{Session: session, Seq: 1}, Ranges: []api.Range{{From: []byte(key), To: []byte(key + "\x00"), Excl: true}}})
}

// finishing is a Finish that writes a key.
func finishing(session, ts uint64, key, value string) []byte {
	return shard.Encode(shard.Cmd{Kind: shard.Finish, Txn: api.Txn{Session: session, Seq: 1}, Commit: true, Ts: ts, Writes: []api.Write{{Key: []byte(key), Value: []byte(value)}}})
}

// deciding is a Decide with a long reply.
func deciding(session uint64, size int) []byte {
	return shard.Encode(shard.Cmd{Kind: shard.Decide, Txn: api.Txn{Session: session, Seq: 1}, Commit: true, Ts: 1, Reply: []byte(strings.Repeat("r", size))})
}

// opens opens a replica.
func opens(t *testing.T, d *disk.Disk, id, n int, o Options) *Replica {
	t.Helper()
	r, e := Open(d, "g/", id, n, o)
	if r == nil || e != api.OK {
		t.Fatalf("Open = %v, %v", r, e)
	}
	return r
}

// alone is a replica that leads alone, and has applied its first entry.
func alone(t *testing.T, d *disk.Disk, o Options) *Replica {
	t.Helper()
	o.Limit = 1
	r := opens(t, d, 0, 1, o)
	if _, e := r.Tick(); e != api.OK || r.Raft().Role() != raft.Leader {
		t.Fatalf("Tick = %v", e)
	}
	return r
}

// files are all files of a disk, with their bytes.
func files(d *disk.Disk) string {
	out := ""
	for _, name := range d.List("") {
		b, _ := d.Read(name)
		out += fmt.Sprintf("%q: %q; ", name, b)
	}
	return out
}

// isZero: is an Out without anything?
func isZero(x Out) bool { return len(x.Msgs) == 0 && len(x.Done) == 0 && x.Index == 0 }

// dumps is a machine's dump.
func dumps(t *testing.T, m *shard.Machine) []byte {
	t.Helper()
	b, e := m.Dump()
	if e != api.OK {
		t.Fatalf("Dump = %v", e)
	}
	return b
}

func TestExamples(t *testing.T) { // P20.1
	d := disk.New(1 << 20)
	r := opens(t, d, 0, 1, Options{Limit: 1})
	if d.Used() > 0 || len(d.List("")) > 0 {
		t.Errorf("Open writes")
	}
	out, e := r.Tick()
	if e != api.OK || len(out.Msgs) > 0 || out.Index != 0 || len(out.Done) != 1 || out.Done[0].Index != 1 || out.Done[0].Term != 1 || !sameResult(out.Done[0].Result, shard.Result{}) || r.Raft().Role() != raft.Leader {
		t.Errorf("Tick = %+v, %v", out, e)
	}
	out, e = r.Propose(locking(1, "k"))
	if e != api.OK || len(out.Msgs) > 0 || out.Index != 2 || len(out.Done) != 1 || out.Done[0].Index != 2 || out.Done[0].Term != 1 || out.Done[0].Status != 1 || out.Done[0].Ts != 1 {
		t.Errorf("Propose = %+v, %v", out, e)
	}
	out, e = r.Propose(nil)
	if e != api.OK || out.Index != 3 || len(out.Done) != 1 || !sameResult(out.Done[0].Result, shard.Result{}) {
		t.Errorf("Propose of nothing = %+v, %v", out, e)
	}
	out, e = r.Propose([]byte("no command"))
	if e != api.OK || out.Index != 4 || len(out.Done) != 1 || !sameResult(out.Done[0].Result, shard.Result{Err: api.ErrForm}) {
		t.Errorf("Propose of no command = %+v, %v", out, e)
	}
	d.Crash()
	r = opens(t, d, 0, 1, Options{Limit: 1})
	if r.Applied() != 4 || r.Raft().Term != 1 || r.Raft().Vote != 0 || r.Raft().Last() != 4 || r.Known(api.Txn{Session: 1, Seq: 1}) != 1 {
		t.Errorf("opened again it has applied %d, and is %+v", r.Applied(), r.Raft().State)
	}
	if out, e := r.Propose(locking(2, "k")); e != api.ErrLead || !isZero(out) {
		t.Errorf("Propose of a follower = %+v, %v", out, e)
	}
	out, e = r.Tick()
	if e != api.OK || len(out.Done) != 1 || out.Done[0].Index != 5 || out.Done[0].Term != 2 {
		t.Errorf("Tick = %+v, %v", out, e)
	}
}

func TestThree(t *testing.T) { // P20.1: what is sent, and when it is applied
	seen := map[string]int{}
	w := newNet(t, 3, 1<<20, Options{Limit: 2, Keep: 100}, seen)
	w.calm(6)
	if w.peers[0].Raft().Role() != raft.Leader || w.peers[2].Applied() != 1 {
		t.Fatalf("the first one doesn't lead: %+v", w.peers[2].Raft().State)
	}
	out, e := w.propose(0, locking(1, "k"))
	if e != api.OK || len(out.Msgs) != 2 || len(out.Done) != 0 || out.Index != 2 || out.Msgs[0].Kind != raft.Append || len(out.Msgs[1].Entries) != 1 {
		t.Fatalf("Propose = %+v, %v", out, e)
	}
	w.comes(0, false)
	if w.peers[0].Applied() != 1 || len(w.way) != 2 {
		t.Fatalf("one has it, and it is applied: %d", w.peers[0].Applied())
	}
	m := w.way[1]
	w.way = w.way[:1]
	out, e = w.event(0, func(r *Replica) (Out, api.Errno) { return r.Step(m) })
	if e != api.OK || len(out.Done) != 1 || out.Done[0].Index != 2 || out.Done[0].Status != 1 {
		t.Fatalf("Step = %+v, %v", out, e)
	}
	if out, e := w.propose(1, locking(2, "k")); e != api.ErrLead || !isZero(out) {
		t.Fatalf("Propose of a follower = %+v, %v", out, e)
	}
	w.calm(2)
	if w.peers[1].Applied() != 2 || w.peers[2].Known(api.Txn{Session: 1, Seq: 1}) != 1 {
		t.Errorf("the others have applied %d, %d", w.peers[1].Applied(), w.peers[2].Applied())
	}
}

func TestErrorsOfOpen(t *testing.T) { // P20.1
	dead := disk.New(100)
	dead.Arm(0)
	dead.Append("x", nil)
	for _, d := range []*disk.Disk{disk.New(0), disk.New(1000), dead} {
		for _, c := range [][3]int{{0, 0, 1}, {0, 6, 1}, {-1, 1, 1}, {1, 1, 1}, {5, 5, 1}, {2, 2, 3}, {0, 1, 0}, {0, 1, 1001}, {0, 1, -1}, {math.MinInt, math.MinInt, math.MaxInt}, {math.MaxInt, 5, 5}, {0, -1, 5}} {
			if r, e := Open(d, "g/", c[0], c[1], Options{Limit: c[2]}); r != nil || e != api.ErrArg {
				t.Errorf("Open of %v = %v, %v", c, r, e)
			}
		}
	}
	if r, e := Open(dead, "g/", 0, 1, Options{Limit: 1}); r != nil || e != api.ErrDead {
		t.Errorf("Open of a dead disk = %v, %v", r, e)
	}
	for n := range 6 {
		for id := range n {
			for _, limit := range []int{1, 1000} {
				r := opens(t, disk.New(0), id, n, Options{Limit: limit, Keep: math.MinInt})
				if r.Raft().Role() != raft.Follower || r.Raft().Lead() != -1 || r.Raft().Vote != -1 || r.Applied() != 0 || r.Raft().Last() != 0 {
					t.Errorf("a new one is %+v", r.Raft())
				}
			}
		}
	}
}

// lived is a disk with a replica that has had a Snap, with a base, and an entry behind it.
func lived(t *testing.T) *disk.Disk {
	t.Helper()
	leader := alone(t, disk.New(1<<20), Options{Keep: 1})
	for i := range uint64(3) {
		if _, e := leader.Propose(locking(i, "k")); e != api.OK {
			t.Fatal(e)
		}
	}
	d := disk.New(1 << 20)
	r := opens(t, d, 1, 3, Options{Limit: 5, Keep: 10})
	snap := raft.Msg{Kind: raft.Snap, From: 0, To: 1, Term: 3, Index: 4, LogTerm: 1, Data: dumps(t, leader.Machine)}
	if out, e := r.Step(snap); e != api.OK || len(out.Msgs) != 1 || !out.Msgs[0].OK || r.Applied() != 4 {
		t.Fatalf("Step = %+v, %v", out, e)
	}
	if out, e := r.Step(raft.Msg{Kind: raft.Append, From: 0, To: 1, Term: 3, Index: 4, LogTerm: 1, Commit: 5, Entries: []raft.Entry{{Term: 3, Data: finishing(0, 1, "k", "x")}}}); e != api.OK || len(out.Done) != 1 {
		t.Fatalf("Step = %+v, %v", out, e)
	}
	return d
}

func TestOpenOfOtherFiles(t *testing.T) { // P20.2: ErrForm: what lies there isn't so
	opensAs := func(what string, d *disk.Disk, want api.Errno) {
		t.Helper()
		if r, e := Open(d, "g/", 1, 3, Options{Limit: 5}); e != want || (r == nil) != (want != api.OK) {
			t.Errorf("%s: Open = %v, %v; want %v", what, r, e, want)
		}
	}
	d := lived(t)
	opensAs("as it was", d.Twin(), api.OK)
	if _, e := Open(d.Twin(), "g/", 1, 1, Options{Limit: 5}); e != api.ErrArg {
		t.Errorf("Open = %v", e)
	}
	if _, e := Open(d.Twin(), "h/", 1, 3, Options{Limit: 5}); e != api.OK {
		t.Errorf("Open of another prefix = %v", e)
	}
	for _, name := range d.List("") {
		whole, _ := d.Read(name)
		for n := 0; n < len(whole); n += 1 + len(whole)/40 {
			x := d.Twin()
			spoilt := bytes.Clone(whole)
			spoilt[n] ^= 16
			x.Remove(name)
			x.Append(name, spoilt)
			x.Sync(name)
			r, e := Open(x, "g/", 1, 3, Options{Limit: 5})
			if e != api.OK && e != api.ErrForm || (r == nil) != (e != api.OK) {
				t.Errorf("%s with another byte %d: Open = %v, %v", name, n, r, e)
			}
			if e == api.OK {
				if r.Applied() < r.Raft().Base {
					t.Errorf("%s with another byte %d: applied %d, base %d", name, n, r.Applied(), r.Raft().Base)
				}
				r.Tick()
			}
		}
	}
	for _, begin := range []string{"g/1.", "g/" + whichEnd} { // without the machine that the log's base stands on
		x := d.Twin()
		for _, name := range d.List(begin) {
			x.Remove(name)
		}
		opensAs("without "+begin, x, api.ErrForm)
	}
	for i, which := range [][]byte{{1}, {1}, {0}, {1}, {2}, {255}, {1, 1}, {}} {
		x := d.Twin()
		sealed, _ := crc.Seal(which)
		switch i {
		case 0:
			sealed = []byte("nonsense")
		case 1:
			sealed = append(sealed, 0)
		}
		x.Remove("g/" + whichEnd)
		x.Append("g/"+whichEnd, sealed)
		x.Sync("g/" + whichEnd)
		want := api.ErrForm
		if i == 3 {
			want = api.OK
		}
		opensAs(fmt.Sprintf("the place %q", sealed), x, want)
	}
	x := disk.New(1 << 20)
	l, _ := raftlog.Open(x, "g/l.")
	l.Save(raft.State{Hard: raft.Hard{Term: 1, Vote: 4}})
	opensAs("a vote for nobody there", x, api.ErrForm)
	l.Save(raft.State{Hard: raft.Hard{Term: 1, Vote: 1}, Base: 1})
	opensAs("a base without a machine", x, api.ErrForm)
	l.Save(raft.State{Hard: raft.Hard{Term: 1, Vote: 1}, Base: 1, Entries: []raft.Entry{{Term: 2}}})
	opensAs("an entry above the term", x, api.ErrForm)
}

func TestLeftovers(t *testing.T) { // P20.2: what a dying disk has left behind goes, all else stays
	d := lived(t)
	for _, name := range []string{"g/0.w.0000000000000000", "g/0.x", "g/which.new", "h", "g", "g/2.t.1"} {
		d.Append(name, []byte("left"))
	}
	r := opens(t, d, 1, 3, Options{Limit: 5})
	if got := d.List("g/0."); len(got) > 0 {
		t.Errorf("%q are left", got)
	}
	for _, name := range []string{"h", "g", "g/2.t.1"} {
		if b, e := d.Read(name); string(b) != "left" || e != api.OK {
			t.Errorf("%s is gone", name)
		}
	}
	if b, e := d.Read("g/which.new"); e != api.ErrNone {
		t.Errorf("%q is left", b)
	}
	if r.Applied() != 5 {
		t.Errorf("applied %d", r.Applied())
	}
}

func TestTwoGroups(t *testing.T) { // P20.1: on one disk, each for itself
	d := disk.New(1 << 20)
	var all []*Replica
	for _, prefix := range []string{"0/", "1/", "", "g"} {
		r, e := Open(d, prefix, 0, 1, Options{Limit: 1})
		if e != api.OK {
			t.Fatal(e)
		}
		all = append(all, r)
	}
	for i, r := range all {
		r.Tick()
		for range i {
			r.Propose(locking(uint64(i), "k"))
		}
	}
	d.Crash()
	for i, prefix := range []string{"0/", "1/", "", "g"} {
		r, e := Open(d, prefix, 0, 1, Options{Limit: 1})
		if e != api.OK || r.Applied() != uint64(1+i) || !bytes.Equal(dumps(t, r.Machine), dumps(t, all[i].Machine)) {
			t.Errorf("%s: %v, %v", prefix, r, e)
		}
	}
}

func TestErrorsOfPropose(t *testing.T) { // P20.1
	long := make([]byte, raftlog.MaxData+1)
	d := disk.New(1 << 22)
	r := alone(t, d, Options{Keep: 100})
	was := files(d)
	if out, e := r.Propose(long); e != api.ErrSize || !isZero(out) || r.Raft().Last() != 1 || files(d) != was {
		t.Errorf("Propose = %+v, %v; last %d", out, e, r.Raft().Last())
	}
	if out, e := r.Propose(long[1:]); e != api.OK || out.Index != 2 || len(out.Done) != 1 || out.Done[0].Err != api.ErrForm {
		t.Errorf("Propose = %+v, %v", out, e)
	}
	follower := opens(t, disk.New(1000), 0, 3, Options{Limit: 1})
	for _, data := range [][]byte{nil, long, locking(1, "k")} {
		if out, e := follower.Propose(data); e != api.ErrLead || !isZero(out) {
			t.Errorf("Propose of a follower = %+v, %v", out, e)
		}
	}
	d.Arm(0)
	if out, e := r.Propose(nil); e != api.ErrDead || !isZero(out) {
		t.Errorf("Propose = %+v, %v", out, e)
	}
	if out, e := r.Propose(long); e != api.ErrSize || !isZero(out) { // the lesser error
		t.Errorf("Propose = %+v, %v", out, e)
	}
}

func TestDeadDisk(t *testing.T) { // P20.1
	for _, role := range []int{raft.Follower, raft.Leader} {
		d := disk.New(1 << 20)
		r := opens(t, d, 0, 1, Options{Limit: 1})
		if role == raft.Leader {
			r.Tick()
		}
		d.Arm(0)
		d.Append("x", nil)
		for range 2 {
			for what, call := range map[string]func() (Out, api.Errno){
				"Tick": r.Tick, "Step": func() (Out, api.Errno) { return r.Step(raft.Msg{}) }, "Propose": func() (Out, api.Errno) { return r.Propose(nil) },
				"Step of a Snap": func() (Out, api.Errno) { return r.Step(raft.Msg{Kind: raft.Snap, Index: 9, Term: 9}) },
				"Step of too much": func() (Out, api.Errno) {
					return r.Step(raft.Msg{Kind: raft.Append, Entries: []raft.Entry{{Data: make([]byte, raftlog.MaxData+1)}}})
				},
			} {
				if out, e := call(); e != api.ErrDead || !isZero(out) {
					t.Errorf("%s = %+v, %v", what, out, e)
				}
			}
			if n, e := r.Rest(); n != 0 || e != api.ErrDead {
				t.Errorf("Rest = %d, %v", n, e)
			}
		}
	}
}

func TestKeep(t *testing.T) { // P20.1: how many entries that are applied the log keeps
	for _, keep := range []int{math.MinInt, 0, 1, 2, 7, 30, math.MaxInt} {
		d := disk.New(1 << 22)
		r := alone(t, d, Options{Keep: keep})
		moved := 0
		for i := range uint64(60) {
			base := r.Raft().Base
			if out, e := r.Propose(locking(i, fmt.Sprint(i))); e != api.OK || len(out.Done) != 1 {
				t.Fatalf("Propose = %+v, %v", out, e)
			}
			now := r.Raft().State
			if kept := r.Applied() - now.Base; kept > uint64(max(keep, 1)) || len(now.Entries) != int(kept) {
				t.Fatalf("Keep %d: applied %d, the base %d, %d entries", keep, r.Applied(), now.Base, len(now.Entries))
			}
			if now.Base > base {
				if r.Applied()-base <= uint64(max(keep, 1)) {
					t.Fatalf("Keep %d: the base goes on from %d to %d, applied %d", keep, base, now.Base, r.Applied())
				}
				moved++
			}
			again := opens(t, d.Twin(), 0, 1, Options{Limit: 1, Keep: keep})
			if !sameState(again.Raft().State, now) || again.Applied() != r.Applied() {
				t.Fatalf("opened again it is %+v; was %+v", again.Raft().State, now)
			}
		}
		if (moved > 0) != (keep < 60) {
			t.Errorf("Keep %d: the base went on %d times", keep, moved)
		}
	}
}

// snapOf is a Snap of what a replica that leads alone has applied.
func snapOf(t *testing.T, r *Replica) raft.Msg {
	t.Helper()
	term, _ := r.Raft().TermAt(r.Applied())
	return raft.Msg{Kind: raft.Snap, From: 0, To: 1, Term: 5, Index: r.Applied(), LogTerm: term, Data: dumps(t, r.Machine)}
}

// grown is a replica that leads alone, and has applied so many entries.
func grown(t *testing.T, n uint64) *Replica {
	t.Helper()
	r := alone(t, disk.New(1<<24), Options{Keep: 1000})
	for i := uint64(1); i < n; i++ {
		data := locking(i, fmt.Sprint(i))
		if i%2 == 0 {
			data = finishing(i-1, i, fmt.Sprint(i-1), fmt.Sprint("value ", i))
		}
		if _, e := r.Propose(data); e != api.OK {
			t.Fatal(e)
		}
	}
	return r
}

func TestSnap(t *testing.T) { // P20.4
	leader := grown(t, 9)
	snap := snapOf(t, leader)
	for _, before := range []int{0, 3} { // how many entries the other one has ahead of it
		d := disk.New(1 << 20)
		r := opens(t, d, 1, 3, Options{Limit: 5, Keep: 100})
		for i := range before {
			r.Step(raft.Msg{Kind: raft.Append, From: 0, To: 1, Term: 4, Index: uint64(i), LogTerm: min(uint64(i), 1), Commit: uint64(i + 1), Entries: []raft.Entry{{Term: 1, Data: leader.Raft().Entries[i].Data}}})
		}
		if r.Applied() != uint64(before) {
			t.Fatalf("applied %d", r.Applied())
		}
		for range 3 { // again and again
			out, e := r.Step(snap)
			if e != api.OK || len(out.Done) > 0 || len(out.Msgs) != 1 || !out.Msgs[0].OK || out.Msgs[0].Index != 9 {
				t.Fatalf("Step = %+v, %v", out, e)
			}
			if r.Applied() != 9 || r.Raft().Base != 9 || r.Raft().Commit() != 9 || !bytes.Equal(dumps(t, r.Machine), snap.Data) {
				t.Fatalf("applied %d, %+v", r.Applied(), r.Raft().State)
			}
			d.Crash()
			r = opens(t, d, 1, 3, Options{Limit: 5, Keep: 100})
			if r.Applied() != 9 || r.Raft().Base != 9 || r.Raft().Term != 5 || !bytes.Equal(dumps(t, r.Machine), snap.Data) {
				t.Fatalf("opened again it has applied %d, %+v", r.Applied(), r.Raft().State)
			}
		}
		out, e := r.Step(raft.Msg{Kind: raft.Append, From: 0, To: 1, Term: 5, Index: 9, LogTerm: 1, Commit: 10, Entries: []raft.Entry{{Term: 5, Data: locking(99, "k")}}})
		if e != api.OK || len(out.Done) != 1 || out.Done[0].Index != 10 || out.Done[0].Term != 5 {
			t.Fatalf("Step = %+v, %v", out, e)
		}
		later := grown(t, 14) // a second Snap, from where the first one was put
		if out, e := r.Step(snapOf(t, later)); e != api.OK || len(out.Msgs) != 1 || r.Applied() != 14 || !bytes.Equal(dumps(t, r.Machine), dumps(t, later.Machine)) {
			t.Fatalf("Step = %+v, %v", out, e)
		}
		if names := d.List("g/1."); len(names) > 0 {
			t.Errorf("%q is left", names)
		}
	}
}

func TestSnapThatCantBe(t *testing.T) { // P20.1, P20.4: the event is nothing
	leader := grown(t, 9)
	good := snapOf(t, leader)
	other := dumps(t, grown(t, 8).Machine)
	further := dumps(t, grown(t, 10).Machine)
	for what, data := range map[string][]byte{"none": nil, "no dump": []byte("nonsense"), "cut": good.Data[:len(good.Data)-1], "more": append(bytes.Clone(good.Data), 0), "applied less": other, "applied more": further} {
		d := disk.New(1 << 20)
		r := opens(t, d, 1, 3, Options{Limit: 5})
		r.Step(raft.Msg{Kind: raft.Append, From: 0, To: 1, Term: 2, Commit: 1, Entries: []raft.Entry{{Term: 1}, {Term: 2}}})
		was, state := files(d), r.Raft().State
		machine := dumps(t, r.Machine)
		m := good
		m.Data = data
		if !r.Raft().Wants(m) {
			t.Fatalf("it isn't wanted")
		}
		for range 2 {
			if out, e := r.Step(m); e != api.OK || !isZero(out) {
				t.Errorf("%s: Step = %+v, %v", what, out, e)
			}
			if files(d) != was || !sameState(r.Raft().State, state) || !bytes.Equal(dumps(t, r.Machine), machine) || r.Raft().Commit() != 1 {
				t.Errorf("%s: something has changed", what)
			}
		}
		if out, e := r.Step(good); e != api.OK || len(out.Msgs) != 1 || r.Applied() != 9 {
			t.Errorf("%s: then Step = %+v, %v", what, out, e)
		}
	}
	d := disk.New(1 << 20)
	r := opens(t, d, 1, 3, Options{Limit: 5})
	r.Step(raft.Msg{Kind: raft.Append, From: 0, To: 1, Term: 7, Commit: 1, Entries: []raft.Entry{{Term: 1}}})
	was := files(d)
	for what, m := range map[string]raft.Msg{ // what isn't wanted is the raft node's, whatever its Data
		"an old term": {Kind: raft.Snap, From: 0, To: 1, Term: 5, Index: 9, LogTerm: 1, Data: good.Data}, "an old index": {Kind: raft.Snap, From: 0, To: 1, Term: 7, Index: 1, LogTerm: 1}, "for another one": {Kind: raft.Snap, From: 0, To: 2, Term: 9, Index: 9, LogTerm: 1, Data: good.Data}, "a term that can't be": {Kind: raft.Snap, From: 0, To: 1, Term: 7, Index: 9, LogTerm: 8, Data: good.Data},
	} {
		if _, e := r.Step(m); e != api.OK || files(d) != was || r.Applied() != 1 {
			t.Errorf("%s: Step = %v, applied %d", what, e, r.Applied())
		}
	}
}

func TestSnapWithoutRoom(t *testing.T) { // P20.1
	leader := grown(t, 30)
	snap := snapOf(t, leader)
	none, full, done := 0, 0, 0
	for room := 100; room < 12000; room += 37 {
		d := disk.New(room)
		r := opens(t, d, 1, 3, Options{Limit: 5, Lsm: lsm.Options{Mem: 1000, Block: 100, Fan: 3}})
		if _, e := r.Step(raft.Msg{Kind: raft.Append, From: 0, To: 1, Term: 2, Commit: 1, Entries: []raft.Entry{{Term: 1}}}); e != api.OK {
			continue
		}
		was, state, machine := files(d), r.Raft().State, dumps(t, r.Machine)
		out, e := r.Step(snap)
		switch {
		case e == api.OK && isZero(out):
			none++
			if files(d) != was || !sameState(r.Raft().State, state) || !bytes.Equal(dumps(t, r.Machine), machine) {
				t.Fatalf("room %d: something has changed", room)
			}
		case e == api.ErrFull && isZero(out): // the machine is there, but not the log
			full++
			again := opens(t, d.Twin(), 1, 3, Options{Limit: 5})
			if r.Applied() != 30 || again.Applied() != 30 || !sameState(again.Raft().State, state) {
				t.Fatalf("room %d: applied %d; opened again %d, %+v", room, r.Applied(), again.Applied(), again.Raft().State)
			}
		case e == api.OK && len(out.Msgs) == 1 && r.Applied() == 30:
			done++
		default:
			t.Fatalf("room %d: Step = %+v, %v", room, out, e)
		}
	}
	if none == 0 || done == 0 {
		t.Errorf("none %d, full %d, done %d", none, full, done)
	}
}

func TestSnapAtEachDeath(t *testing.T) { // P20.1, P20.2
	leader := grown(t, 9)
	snap := snapOf(t, leader)
	old, between, whole := 0, 0, 0
	for _, o := range []lsm.Options{{}, {Mem: 1 << 20}, {Mem: 300, Block: 50, Fan: 2}} {
		for _, keeps := range [][]int{nil, {math.MaxInt}, {5, 70, 1}} {
			for arm, died := 0, true; died; arm++ {
				what := fmt.Sprintf("%v, dead behind %d, kept %v", o, arm, keeps)
				d := disk.New(1 << 20)
				r := opens(t, d, 1, 3, Options{Limit: 5, Lsm: o})
				r.Step(raft.Msg{Kind: raft.Append, From: 0, To: 1, Term: 2, Commit: 2, Entries: []raft.Entry{{Term: 1}, {Term: 1, Data: leader.Raft().Entries[1].Data}, {Term: 2}}})
				state, machine := r.Raft().State, dumps(t, r.Machine)
				d.Arm(arm)
				out, e := r.Step(snap)
				died = e == api.ErrDead
				if died && !isZero(out) || !died && (e != api.OK || len(out.Msgs) != 1) {
					t.Fatalf("%s: Step = %+v, %v", what, out, e)
				}
				d.Crash(keeps...)
				r = opens(t, d, 1, 3, Options{Limit: 5, Lsm: o})
				switch applied := r.Applied(); {
				case applied == 2 && sameState(r.Raft().State, state) && bytes.Equal(dumps(t, r.Machine), machine):
					old++
				case applied == 9 && r.Raft().Base <= 9 && bytes.Equal(dumps(t, r.Machine), snap.Data):
					if whole++; r.Raft().Base < 9 {
						between++
						behindIt(t, what, r, snap, leader)
						continue
					}
				default:
					t.Fatalf("%s: applied %d, %+v", what, applied, r.Raft().State)
				}
				if place := d.List(r.files.Path(placeEnd(1 - r.place))); len(place) > 0 {
					t.Fatalf("%s: %q is left", what, place)
				}
				if out, e := r.Step(snap); e != api.OK || len(out.Msgs) != 1 || !out.Msgs[0].OK || r.Applied() != 9 || r.Raft().Commit() != 9 {
					t.Fatalf("%s: then Step = %+v, %v", what, out, e)
				}
			}
		}
	}
	if old == 0 || whole == 0 || between == 0 {
		t.Errorf("old %d, whole %d, between %d", old, whole, between)
	}
}

// behindIt looks at a replica whose machine is ahead of its log: what it has applied it doesn't apply again, and doesn't give up for an older Snap.
func behindIt(t *testing.T, what string, r *Replica, snap raft.Msg, leader *Replica) {
	t.Helper()
	older := snap
	older.Index, older.Data = 5, dumps(t, grown(t, 5).Machine)
	if !r.Raft().Wants(older) {
		t.Fatalf("%s: it isn't wanted", what)
	}
	spoilt := older
	spoilt.Data = spoilt.Data[1:]
	if out, e := r.Step(spoilt); e != api.OK || !isZero(out) || r.Raft().Base == 5 {
		t.Fatalf("%s: Step = %+v, %v", what, out, e)
	}
	if out, e := r.Step(older); e != api.OK || len(out.Msgs) != 1 || r.Applied() != 9 || r.Raft().Commit() != 5 || !bytes.Equal(dumps(t, r.Machine), snap.Data) {
		t.Fatalf("%s: Step = %+v, %v; applied %d", what, out, e, r.Applied())
	}
	entries := append(slices.Clone(leader.Raft().Entries[5:]), raft.Entry{Term: 5, Data: locking(77, "y")})
	out, e := r.Step(raft.Msg{Kind: raft.Append, From: 0, To: 1, Term: 5, Index: 5, LogTerm: 1, Commit: 10, Entries: entries})
	if e != api.OK || len(out.Done) != 1 || out.Done[0].Index != 10 || r.Applied() != 10 {
		t.Fatalf("%s: Step = %+v, %v", what, out, e)
	}
}

// leads lets a replica lead, by votes of all others.
func leads(t *testing.T, r *Replica, id int) {
	t.Helper()
	for i := 0; i < 20 && r.Raft().Role() != raft.Leader; i++ {
		out, _ := r.Tick()
		for ask := out.Msgs; len(ask) > 0; ask = ask[1:] {
			if m := ask[0]; m.Kind == raft.PreVote || m.Kind == raft.Vote {
				out, _ := r.Step(raft.Msg{Kind: m.Kind + 1, From: m.To, To: id, Term: m.Term, OK: true})
				ask = append(ask, out.Msgs...)
			}
		}
	}
	if r.Raft().Role() != raft.Leader {
		t.Fatalf("it doesn't lead")
	}
}

func TestSnapAheadOfTheLog(t *testing.T) { // P20.1: who has applied what its log doesn't know can't say of which term that was
	snap := snapOf(t, grown(t, 9))
	for arm := 0; ; arm++ {
		d := disk.New(1 << 20)
		r := opens(t, d, 1, 3, Options{Limit: 5})
		r.Step(snapOf(t, grown(t, 4)))
		d.Arm(arm)
		if _, e := r.Step(snap); e != api.ErrDead {
			t.Fatalf("it never was between")
		}
		d.Crash()
		r = opens(t, d, 1, 3, Options{Limit: 5})
		if r.Applied() == 4 {
			continue
		}
		if r.Applied() != 9 || r.Raft().Base != 4 {
			t.Fatalf("applied %d, the base %d", r.Applied(), r.Raft().Base)
		}
		leads(t, r, 1)
		for range 5 {
			out, e := r.Step(raft.Msg{Kind: raft.Appended, From: 0, To: 1, Term: r.Raft().Term})
			known := r.Raft().Last() >= 9
			if e != api.OK || len(out.Msgs) > 1 || known != (len(out.Msgs) == 1 && out.Msgs[0].Kind == raft.Snap && out.Msgs[0].Index == 9) {
				t.Fatalf("Last %d: Step = %+v, %v", r.Raft().Last(), out, e)
			}
			r.Propose(nil)
		}
		if r.Raft().Last() < 9 {
			t.Errorf("Last = %d", r.Raft().Last())
		}
		return
	}
}

func TestSnapsThatAreSent(t *testing.T) { // P20.4
	seen := map[string]int{}
	w := newNet(t, 3, 1<<20, Options{Limit: 2, Keep: 2}, seen)
	w.calm(6)
	for i := range uint64(8) {
		w.propose(0, locking(i, fmt.Sprint(i)))
		for len(w.way) > 0 { // the third one is cut off
			if w.way[0].From == 2 || w.way[0].To == 2 {
				w.way = w.way[1:]
				continue
			}
			w.comes(0, false)
		}
	}
	if w.peers[2].Applied() > 2 || w.peers[0].Raft().Base < 6 {
		t.Fatalf("applied %d, the base %d", w.peers[2].Applied(), w.peers[0].Raft().Base)
	}
	snaps := seen["snaps"]
	for range 4 {
		w.event(0, (*Replica).Tick)
		for len(w.way) > 0 {
			w.comes(0, false)
		}
	}
	if seen["snaps"] == snaps || w.peers[2].Applied() != w.peers[0].Applied() || !bytes.Equal(dumps(t, w.peers[2].Machine), dumps(t, w.peers[0].Machine)) {
		t.Errorf("applied %d of %d", w.peers[2].Applied(), w.peers[0].Applied())
	}
}

func TestEntriesTooLong(t *testing.T) { // P20.1: what no log takes stops nobody
	d := disk.New(1 << 22)
	r := opens(t, d, 1, 3, Options{Limit: 5})
	long := raft.Msg{Kind: raft.Append, From: 0, To: 1, Term: 2, Commit: 1, Entries: []raft.Entry{{Term: 1}, {Term: 1, Data: make([]byte, raftlog.MaxData+1)}}}
	for range 2 {
		if out, e := r.Step(long); e != api.OK || !isZero(out) || r.Raft().Last() != 0 || r.Raft().Term != 0 || d.Used() > 0 {
			t.Errorf("Step = %+v, %v; %+v", out, e, r.Raft().State)
		}
	}
	vote := long
	vote.Kind = raft.Vote // of which they are no part
	if out, e := r.Step(vote); e != api.OK || len(out.Msgs) != 1 || !out.Msgs[0].OK || r.Raft().Term != 2 {
		t.Errorf("Step = %+v, %v; %+v", out, e, r.Raft().State)
	}
	long.Entries[1].Data = make([]byte, raftlog.MaxData)
	if out, e := r.Step(long); e != api.OK || len(out.Done) != 1 || r.Raft().Last() != 2 {
		t.Errorf("Step = %+v, %v", out, e)
	}
}

func TestFullDisk(t *testing.T) { // P20.1
	saved, applied := 0, 0
	for room := 60; room < 900; room += 7 {
		d := disk.New(room)
		r := opens(t, d, 0, 1, Options{Limit: 1, Keep: 1000})
		var out Out
		var e api.Errno
		done := uint64(0)
		for i := 0; i < 12; i++ {
			before := r.Applied()
			was := files(d)
			if i == 0 {
				out, e = r.Tick()
			} else {
				out, e = r.Propose(locking(uint64(i), fmt.Sprint(i)))
			}
			if e != api.OK && (e != api.ErrFull && e != api.ErrLead || !isZero(out) || files(d) != was || r.Applied() != before) {
				t.Fatalf("room %d: %+v, %v", room, out, e)
			}
			if e == api.ErrFull {
				saved++
				break
			}
			for _, x := range out.Done {
				if done++; x.Index != done {
					t.Fatalf("room %d: %d is told behind %d", room, x.Index, done-1)
				}
			}
			if r.Applied() < r.Raft().Commit() {
				applied++
			}
		}
		for range 3 { // nothing gets lost of what was refused
			last := r.Raft().Last()
			if out, e := r.Tick(); e != api.OK && e != api.ErrFull || r.Raft().Last() < last || e != api.OK && !isZero(out) {
				t.Fatalf("room %d: Tick = %+v, %v", room, out, e)
			}
		}
		d.Crash()
		if again := opens(t, d, 0, 1, Options{Limit: 1}); again.Applied() != r.Applied() {
			t.Fatalf("room %d: opened again it has applied %d; was %d", room, again.Applied(), r.Applied())
		}
	}
	if saved == 0 || applied == 0 {
		t.Errorf("no room to save %d times, to apply %d times", saved, applied)
	}
}

func TestRoomAgain(t *testing.T) { // P20.1: what found no room is saved, and applied, at a later event
	waited := map[bool]int{}
	for room := 300; room < 1200; room += 11 {
		d := disk.New(room)
		d.Append("fill", make([]byte, room/2))
		r := opens(t, d, 0, 1, Options{Limit: 1, Keep: 1000})
		told := uint64(0)
		take := func(out Out) {
			for _, x := range out.Done {
				if told++; x.Index != told || x.Err != api.OK {
					t.Fatalf("room %d: %+v is told behind %d", room, x, told-1)
				}
			}
		}
		out, _ := r.Tick()
		take(out)
		var e api.Errno
		for i := uint64(1); e == api.OK && r.Applied() == r.Raft().Commit(); i++ {
			out, e = r.Propose(locking(i, fmt.Sprint(i)))
			take(out)
		}
		waited[e == api.OK]++
		last := r.Raft().Last()
		d.Remove("fill")
		out, e = r.Tick()
		take(out)
		if e != api.OK || r.Applied() != last || told != last {
			t.Fatalf("room %d: Tick = %v; applied %d, told %d of %d", room, e, r.Applied(), told, last)
		}
	}
	if waited[false] == 0 || waited[true] == 0 {
		t.Errorf("waited to be saved %d times, to be applied %d times", waited[false], waited[true])
	}
}

func TestRest(t *testing.T) { // P20.1
	d := disk.New(1 << 22)
	r := alone(t, d, Options{Keep: 3, Lsm: lsm.Options{Mem: 2000, Block: 100, Fan: 3}})
	for i := uint64(1); i <= 80; i++ {
		r.Propose(locking(i, "k"))
		r.Propose(finishing(i, i, "k", fmt.Sprint(i)))
	}
	r.Propose(locking(99, "z"))
	before, used := dumps(t, r.Machine), d.Used()
	state := r.Raft().State
	total := 0
	for i, want := range []int{50, 29, 0, 0} {
		n, e := r.Rest()
		if total += n; e != api.OK || n != want || r.Low() != r.Closed() || r.Low() != 80 {
			t.Errorf("%d: Rest = %d, %v; Low %d", i, n, e, r.Low())
		}
		again := opens(t, d.Twin(), 0, 1, Options{Limit: 1})
		if !sameState(again.Raft().State, state) || !sameState(r.Raft().State, state) || again.Applied() != r.Applied() || again.Low() != r.Low() {
			t.Errorf("opened again it is %+v, applied %d", again.Raft().State, again.Applied())
		}
	}
	if d.Used() >= used || len(dumps(t, r.Machine)) >= len(before) {
		t.Errorf("%d bytes are used; ahead of it %d", d.Used(), used)
	}
	if l, e := r.Look(nil, nil, 80); e != api.OK || len(l) != 1 || string(l[0].Value) != "80" {
		t.Errorf("Look = %q, %v", l, e)
	}
	if out, e := r.Propose(finishing(99, 85, "z", "x")); e != api.OK || out.Done[0].Err != api.OK {
		t.Errorf("Propose = %+v, %v", out, e)
	}
	if r.Raft().Role() != raft.Leader || r.Raft().Commit() != r.Applied() {
		t.Errorf("a Rest is an event")
	}
}

func TestRestAtEachDeath(t *testing.T) { // P20.1, P20.2
	for arm, died := 0, true; died; arm++ {
		d := disk.New(1 << 22)
		r := alone(t, d, Options{Keep: 3})
		for i := uint64(1); i <= 9; i++ {
			r.Propose(locking(i, "k"))
			r.Propose(finishing(i, i, "k", fmt.Sprint(i)))
		}
		state, applied := r.Raft().State, r.Applied()
		d.Arm(arm)
		n, e := r.Rest()
		if died = e == api.ErrDead; died && n != 0 || !died && (n != 8 || e != api.OK) {
			t.Fatalf("Rest = %d, %v", n, e)
		}
		d.Crash(arm * 7)
		r = opens(t, d, 0, 1, Options{Limit: 1})
		l, e := r.Look(nil, nil, r.Closed())
		if !sameState(r.Raft().State, state) || r.Applied() != applied || e != api.OK || len(l) != 1 || string(l[0].Value) != "9" {
			t.Fatalf("dead behind %d: %+v, applied %d, %q, %v", arm, r.Raft().State, r.Applied(), l, e)
		}
	}
}

func TestRestWithoutRoom(t *testing.T) { // P20.1: what finds no room has changed nothing
	full := 0
	for room := 1500; room < 4500; room += 61 {
		d := disk.New(room)
		r := opens(t, d, 0, 1, Options{Limit: 1, Keep: 3})
		r.Tick()
		e := api.OK
		for i := uint64(1); i < 60 && e == api.OK; i++ {
			if _, e = r.Propose(locking(i, "k")); e == api.OK {
				_, e = r.Propose(finishing(i, i, "k", fmt.Sprint(i)))
			}
		}
		low, dump := r.Low(), dumps(t, r.Machine)
		n, e := r.Rest()
		if e != api.OK {
			if full++; n != 0 || e != api.ErrFull || r.Low() != low || !bytes.Equal(dumps(t, r.Machine), dump) {
				t.Fatalf("room %d: Rest = %d, %v", room, n, e)
			}
		}
	}
	if full == 0 {
		t.Errorf("there was always room")
	}
}

func TestAnyArguments(t *testing.T) { // P1
	numbers := []int{math.MinInt, -1, 0, 1, 2, 3, 5, 7, 8, math.MaxInt}
	longs := []uint64{0, 1, 2, 9, 1 << 62, 1<<62 + 1, math.MaxUint64}
	leader := grown(t, 9)
	datas := [][]byte{nil, {}, {1}, locking(1, "k"), dumps(t, leader.Machine)}
	d := disk.New(1 << 24)
	r := opens(t, d, 1, 3, Options{Limit: 2, Keep: math.MaxInt})
	step := 0
	for _, kind := range numbers {
		for _, from := range numbers[:6] {
			for _, term := range longs {
				for _, index := range longs {
					step++
					m := raft.Msg{Kind: kind, From: from, To: []int{1, 1, 1, 0, -1}[step%5], Term: term, Index: index, LogTerm: longs[step%7], Commit: longs[step/7%7], OK: step%2 == 0, Data: datas[step%5]}
					if step%3 == 0 {
						m.Entries = []raft.Entry{{Term: longs[step%4], Data: datas[step%4]}, {Term: term, Data: datas[3]}}
					}
					if _, e := r.Step(m); e != api.OK {
						t.Fatalf("Step(%+v) = %v", m, e)
					}
					if step%50 == 0 {
						r.Tick()
						r.Propose(datas[step%5])
						r.Rest()
					}
					if step%200 == 0 {
						again := opens(t, d.Twin(), 1, 3, Options{Limit: 2})
						if !sameState(again.Raft().State, r.Raft().State) || again.Applied() != r.Applied() {
							t.Fatalf("opened again it is %+v, applied %d; was %+v, %d", again.Raft().State, again.Applied(), r.Raft().State, r.Applied())
						}
					}
				}
			}
		}
	}
	for _, x := range numbers {
		for _, o := range []Options{{Limit: x, Keep: x, Lsm: lsm.Options{Mem: x, Block: x, Fan: x}}, {Limit: 1, Keep: x, Lsm: lsm.Options{Mem: x, Block: x, Fan: x}}} {
			for _, prefix := range []string{"", "g/", "\xff", strings.Repeat("p", 5000)} {
				if r, e := Open(disk.New(100000), prefix, 0, 1, o); e == api.OK {
					r.Tick()
					r.Propose(locking(1, "k"))
					r.Rest()
				}
			}
		}
	}
}

// fill writes over a list, its spare room too.
func fill(b []byte) {
	b = b[:cap(b)]
	for i := range b {
		b[i] = 77
	}
}

// roomy is a copy with spare room.
func roomy(b []byte) []byte { return append(slices.Clone(b), 0, 1, 2, 255)[:len(b)] }

// untouched looks whether bytes that were handed in are as they were, and writes over them.
func untouched(t *testing.T, what string, b, want []byte) {
	t.Helper()
	if !bytes.Equal(b[:len(b)+4], append(slices.Clone(want), 0, 1, 2, 255)) {
		t.Fatalf("%s has changed %q", what, want)
	}
	fill(b)
}

// spoil writes over all lists of an Out, each of which must be as it was told first.
func spoil(t *testing.T, out Out) {
	t.Helper()
	var lists [][]byte
	for _, m := range out.Msgs {
		lists = append(lists, m.Data)
		for _, x := range m.Entries {
			lists = append(lists, x.Data)
		}
	}
	for _, x := range out.Done {
		lists = append(lists, x.Record.Reply)
		for _, p := range x.Pairs {
			lists = append(lists, p.Key, p.Value)
		}
		for _, w := range x.Record.Writes {
			lists = append(lists, w.Key, w.Value)
		}
	}
	var want []string
	for _, b := range lists {
		want = append(want, string(b))
	}
	for i, b := range lists {
		if string(b) != want[i] {
			t.Fatalf("two lists of an Out share memory")
		}
		fill(b)
	}
}

func TestMemory(t *testing.T) { // P20.5
	d := disk.New(1 << 22)
	r := alone(t, d, Options{Keep: 4})
	plain := grown(t, 1)
	for i := range uint64(40) {
		var data []byte
		switch i % 4 {
		case 0:
			data = locking(i, "k")
		case 1:
			data = shard.Encode(shard.Cmd{Kind: shard.Decide, Txn: api.Txn{Session: i}, Commit: true, Ts: 1, Writes: []api.Write{{Key: []byte("k"), Value: []byte("x")}}, Reply: []byte("reply")})
		case 2:
			data = finishing(i-2, i, "k", fmt.Sprint(i))
		case 3:
			data = shard.Encode(shard.Cmd{Kind: shard.Lock, Txn: api.Txn{Session: i}, Ranges: []api.Range{{}}})
		}
		given := roomy(data)
		out, e := r.Propose(given)
		untouched(t, "Propose", given, data)
		want, _ := plain.Propose(data)
		if e != api.OK || len(out.Done) != 1 || !sameResult(out.Done[0].Result, want.Done[0].Result) {
			t.Fatalf("Propose = %+v, %v; want %+v", out, e, want)
		}
		spoil(t, out)
		if i%4 == 3 {
			drop := shard.Encode(shard.Cmd{Kind: shard.Finish, Txn: api.Txn{Session: i}})
			r.Propose(drop)
			plain.Propose(drop)
		}
		if !bytes.Equal(dumps(t, r.Machine), dumps(t, plain.Machine)) {
			t.Fatalf("what was written over is in the machine")
		}
	}
	d.Crash()
	if again := opens(t, d, 0, 1, Options{Limit: 1}); !bytes.Equal(dumps(t, again.Machine), dumps(t, plain.Machine)) {
		t.Errorf("what was written over is on the disk")
	}
}

func TestMemoryOfMessages(t *testing.T) { // P20.5
	leader := grown(t, 9)
	snap := snapOf(t, leader)
	r := opens(t, disk.New(1<<20), 1, 3, Options{Limit: 5, Keep: 100})
	given := snap
	given.Data = roomy(snap.Data)
	out, e := r.Step(given)
	untouched(t, "Step", given.Data, snap.Data)
	if spoil(t, out); e != api.OK || !bytes.Equal(dumps(t, r.Machine), snap.Data) {
		t.Fatalf("Step = %v", e)
	}
	data := locking(50, "q")
	entries := []raft.Entry{{Term: 5, Data: roomy(data)}, {Term: 5, Data: []byte("spare")}}[:1]
	out, e = r.Step(raft.Msg{Kind: raft.Append, From: 0, To: 1, Term: 5, Index: 9, LogTerm: 1, Commit: 9, Entries: entries})
	untouched(t, "Step", entries[0].Data, data)
	if string(entries[:2][1].Data) != "spare" {
		t.Errorf("Step has changed a list's spare room")
	}
	clear(entries[:2])
	if spoil(t, out); e != api.OK || !bytes.Equal(r.Raft().Entries[0].Data, data) {
		t.Fatalf("Step = %v, %+v", e, r.Raft().Entries)
	}
	leads(t, r, 1)
	for _, from := range []int{0, 2} {
		r.Step(raft.Msg{Kind: raft.Appended, From: from, To: 1, Term: r.Raft().Term})
	}
	one, _ := r.Tick()
	two, _ := r.Tick()
	if len(one.Msgs) != 2 || one.Msgs[0].Kind != raft.Snap || one.Msgs[1].Kind != raft.Snap {
		t.Fatalf("Tick = %+v", one)
	}
	want := dumps(t, r.Machine)
	for _, m := range append(one.Msgs, two.Msgs...) {
		if !bytes.Equal(m.Data, want) {
			t.Fatalf("two Snaps share memory")
		}
		fill(m.Data)
	}
	if !bytes.Equal(dumps(t, r.Machine), want) {
		t.Errorf("a Snap shares memory with the machine")
	}
}
