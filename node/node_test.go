package node

import (
	"bytes"
	"fmt"
	"math"
	"reflect"
	"slices"
	"strings"
	"testing"

	"caisson/api"
	"caisson/catalog"
	"caisson/disk"
	"caisson/lock"
	"caisson/lsm"
	"caisson/plan"
	"caisson/raft"
	"caisson/raftlog"
	"caisson/replica"
	"caisson/session"
	"caisson/shard"
)

func num(n int64) api.Cell                    { return api.Cell{Kind: api.Int, Int: n} }
func text(s string) api.Cell                  { return api.Cell{Kind: api.Text, Text: s} }
func txn(session, seq uint64) api.Txn         { return api.Txn{Session: session, Seq: seq} }
func create(t api.Table) plan.Op              { return plan.Op{Kind: plan.Create, Def: t} }
func put(table string, c ...api.Cell) plan.Op { return plan.Op{Kind: plan.Put, Table: table, Cells: c} }
func get(table string, c ...api.Cell) plan.Op { return plan.Op{Kind: plan.Get, Table: table, Cells: c} }
func list(table string, most int) plan.Op     { return plan.Op{Kind: plan.List, Table: table, Most: most} }

// people is a table whose index is unique.
func people() api.Table {
	return api.Table{Id: 7, Name: "t", Cols: []api.Col{{Name: "id", Kind: api.Int}, {Name: "name", Kind: api.Text, Null: true}}, Keys: 1, Indexes: []api.Index{{Name: "u", Cols: []int{1}, Unique: true}}}
}

// parts are splits that part tables, indexes and rows.
func parts() [][]byte { return [][]byte{[]byte("i"), []byte("r")} }

// entry is the entry of the table.
func entry() api.Pair {
	e, _ := catalog.New(people())
	return api.Pair{Key: catalog.Key("t"), Value: catalog.Encode(e)}
}

// options with this patience.
func options(every, patience int) Options {
	return Options{Options: replica.Options{Limit: 2, Keep: 3, Lsm: lsm.Options{Mem: 1 << 20, Block: 1000, Fan: 4}}, Every: every, Patience: patience}
}

// call is a client's.
func call(to int, x api.Txn, ops ...plan.Op) session.Packet {
	return session.Packet{Kind: session.Call, To: to, Txn: x, Data: plan.Encode(ops)}
}

// ask is a coordinator's, of a node that nobody is.
func ask(to, at int, c shard.Cmd) session.Packet {
	return session.Packet{Kind: session.Ask, From: 9, To: to, Shard: at, Round: 3, Txn: c.Txn, Data: shard.Encode(c)}
}

// locks is a command that locks a key.
func locks(x api.Txn, key string) shard.Cmd {
	return shard.Cmd{Kind: shard.Lock, Txn: x, Ranges: []api.Range{{From: []byte(key), To: []byte(key + "\x00"), Excl: true}}}
}

// group is some nodes with their disks, and what is on its way among them.
type group struct {
	*testing.T
	o      Options
	splits [][]byte
	disks  []*disk.Disk
	nodes  []*Node // nil: it is down
	way    []session.Packet
}

func newGroup(t *testing.T, n int, splits [][]byte, o Options) *group {
	t.Helper()
	g := &group{T: t, o: o, splits: splits, nodes: make([]*Node, n)}
	for id := range n {
		g.disks = append(g.disks, disk.New(1<<26))
		g.start(id)
	}
	return g
}

// start opens a node.
func (g *group) start(id int) {
	g.Helper()
	x, e := Open(g.disks[id], id, len(g.nodes), g.splits, g.o)
	if e != api.OK {
		g.Fatalf("Open = %v", e)
	}
	g.nodes[id] = x
}

// event takes what a node answers at an event; nothing, if its disk has died.
func (g *group) event(id int, list []session.Packet, e api.Errno) []session.Packet {
	g.Helper()
	if e != api.OK && (e != api.ErrDead || len(list) > 0 || !g.disks[id].Dead()) {
		g.Fatalf("node %d: an event = %v, %v", id, list, e)
	}
	if e == api.ErrDead {
		g.nodes[id] = nil
	}
	for _, p := range list {
		if p.From != id || p.Kind == session.Reply && p.To != 0 {
			g.Fatalf("node %d sends %+v", id, p)
		}
	}
	g.way = append(g.way, list...)
	return list
}

func (g *group) tick(id int) []session.Packet {
	g.Helper()
	if g.nodes[id] == nil {
		return nil
	}
	list, e := g.nodes[id].Tick()
	return g.event(id, list, e)
}

func (g *group) step(p session.Packet) []session.Packet {
	g.Helper()
	if p.To < 0 || p.To >= len(g.nodes) || g.nodes[p.To] == nil {
		return nil
	}
	list, e := g.nodes[p.To].Step(p)
	return g.event(p.To, list, e)
}

// drain lets all packets come that may, the oldest first; it answers those for nobody here.
func (g *group) drain(may func(p session.Packet) bool) []session.Packet {
	g.Helper()
	var out []session.Packet
	for n := 0; len(g.way) > 0; n++ {
		if n > 100000 {
			g.Fatal("there is no end of packets")
		}
		p := g.way[0]
		g.way = g.way[1:]
		switch {
		case p.Kind == session.Reply || p.To < 0 || p.To >= len(g.nodes):
			out = append(out, p)
		case may(p):
			g.step(p)
		}
	}
	return out
}

func all(session.Packet) bool { return true }

// rounds lets ticks go on, and all packets come.
func (g *group) rounds(n int) []session.Packet {
	g.Helper()
	var out []session.Packet
	for range n {
		for id := range g.nodes {
			g.tick(id)
			out = append(out, g.drain(all)...)
		}
	}
	return out
}

// ofKind are the packets of a kind.
func ofKind(kind int, list []session.Packet) []session.Packet {
	return slices.DeleteFunc(slices.Clone(list), func(p session.Packet) bool { return p.Kind != kind })
}

// sent looks whether just these packets are sent, in any order.
func sent(t *testing.T, what string, got []session.Packet, want ...session.Packet) {
	t.Helper()
	show := func(list []session.Packet) string {
		var out []string
		for _, p := range list {
			b, e := p.Bytes() // what its kind doesn't use isn't there
			q, _ := session.Read(b)
			said := fmt.Sprintf("%+v %v", q, e)
			if p.Kind == session.Ask {
				c, _ := shard.Decode(p.Data)
				said += fmt.Sprintf(" %+v", c)
			}
			out = append(out, said)
		}
		slices.Sort(out)
		return strings.Join(out, "\n")
	}
	if show(got) != show(want) {
		t.Fatalf("%s: sent is\n%s\nwant\n%s", what, show(got), show(want))
	}
	for _, p := range got {
		b, _ := p.Bytes()
		if q, _ := session.Read(b); !alike(p, q) {
			t.Fatalf("%s: %+v has more than its kind uses", what, p)
		}
	}
}

// alike: are these the same, an empty list counting as none?
func alike(a, b any) bool { return same(reflect.ValueOf(a), reflect.ValueOf(b)) }

func same(a, b reflect.Value) bool {
	switch a.Kind() {
	case reflect.Slice:
		if a.Len() != b.Len() {
			return false
		}
		for i := range a.Len() {
			if !same(a.Index(i), b.Index(i)) {
				return false
			}
		}
		return true
	case reflect.Struct:
		for i := range a.NumField() {
			if !same(a.Field(i), b.Field(i)) {
				return false
			}
		}
		return true
	}
	return a.Equal(b)
}

// replied looks whether one reply is sent, and that it is this one.
func replied(t *testing.T, what string, from int, got []session.Packet, x api.Txn, want plan.Reply) {
	t.Helper()
	sent(t, what, ofKind(session.Reply, got), session.Packet{Kind: session.Reply, From: from, Txn: x, Data: want.Bytes()})
}

func rows(n int) plan.Reply { return plan.Reply{Rows: make([][][]api.Cell, n)} }

func TestExampleOne(t *testing.T) { // P25.1
	o := options(1, 5)
	o.Limit = 1
	g := newGroup(t, 1, nil, o)
	g.tick(0)
	if g.nodes[0].Shard(0).Raft().Role() != raft.Leader {
		t.Error("it doesn't lead")
	}
	g.drain(all)
	g.step(call(0, txn(1, 1), create(people())))
	if len(g.way) != 1 || g.way[0].To != 0 || !slices.Equal(g.nodes[0].Busy(), []api.Txn{txn(1, 1)}) {
		t.Errorf("sent is %v", g.way)
	}
	replied(t, "all have come", 0, g.drain(all), txn(1, 1), rows(1))
	if len(g.nodes[0].Busy()) != 0 {
		t.Errorf("Busy = %v", g.nodes[0].Busy())
	}
}

func TestExampleTwo(t *testing.T) { // P25.2
	g := newGroup(t, 3, parts(), options(1, 5))
	want := session.Packet{Kind: session.Answer, From: 1, To: 9, Shard: 2, Round: 3, Txn: txn(4, 4), Code: api.ErrLead, Lead: -1}
	sent(t, "Ask of a follower", g.step(ask(1, 2, locks(txn(4, 4), "r"))), want)
	g.way = nil
	g.rounds(6)
	want.Lead = 0
	sent(t, "Ask of a follower that knows who leads", g.step(ask(1, 2, locks(txn(4, 4), "r"))), want)
	if len(g.nodes[1].Busy()) != 0 {
		t.Errorf("Busy = %v", g.nodes[1].Busy())
	}
}

func TestOpen(t *testing.T) { // P25.1, P25.2
	long := bytes.Repeat([]byte{1}, 401)
	torn := disk.New(1 << 20)
	torn.Append("1/which", []byte("x"))
	dead := disk.New(1 << 20)
	dead.Arm(0)
	dead.Append("x", nil)
	for _, c := range []struct {
		what         string
		d            *disk.Disk
		id, n, limit int
		splits       [][]byte
		want         api.Errno
	}{
		{"one", nil, 0, 1, 1, nil, api.OK}, {"five", nil, 4, 5, 1000, [][]byte{{1}, {2}, {3}}, api.OK},
		{"no node", nil, 0, 0, 1, nil, api.ErrArg}, {"six nodes", nil, 0, 6, 1, nil, api.ErrArg}, {"a number that is none", nil, 3, 3, 1, nil, api.ErrArg}, {"a number below 0", nil, -1, 3, 1, nil, api.ErrArg}, {"no limit", nil, 0, 1, 0, nil, api.ErrArg}, {"too great a limit", nil, 0, 1, 1001, nil, api.ErrArg},
		{"four splits", nil, 0, 1, 1, [][]byte{{1}, {2}, {3}, {4}}, api.ErrSize}, {"a long split", nil, 0, 1, 1, [][]byte{long}, api.ErrSize},
		{"splits that don't rise", nil, 0, 1, 1, [][]byte{{2}, {1}}, api.ErrForm}, {"two splits alike", nil, 0, 1, 1, [][]byte{{1}, {1}}, api.ErrForm}, {"an empty split", nil, 0, 1, 1, [][]byte{{}}, api.ErrForm},
		{"a wrong number ahead of wrong splits", nil, 1, 1, 1, [][]byte{{}}, api.ErrArg}, {"a wrong number, too many splits", nil, 0, 9, 1, make([][]byte, 9), api.ErrArg}, {"too many that don't rise", nil, 0, 1, 1, make([][]byte, 9), api.ErrSize},
		{"a dead disk", dead, 0, 1, 1, nil, api.ErrDead}, {"wrong splits ahead of a dead disk", dead, 0, 1, 1, [][]byte{{}}, api.ErrForm}, {"a wrong number ahead of a dead disk", dead, 0, 0, 1, nil, api.ErrArg},
		{"a file that isn't in form", torn, 0, 1, 1, parts(), api.ErrForm}, {"of a shard that is none", torn, 0, 1, 1, nil, api.OK}, {"too many splits ahead of it", torn, 0, 1, 1, make([][]byte, 4), api.ErrSize},
	} {
		d := c.d
		if d == nil {
			d = disk.New(1 << 20)
		}
		x, e := Open(d, c.id, c.n, c.splits, Options{Options: replica.Options{Limit: c.limit}})
		if e != c.want || (x == nil) != (e != api.OK) {
			t.Errorf("%s: Open = %v, %v; want %v", c.what, x, e, c.want)
		}
		for i := -2; e == api.OK && i < 7; i++ {
			if r := x.Shard(i); (r != nil) != (i >= 0 && i <= len(c.splits)) {
				t.Errorf("%s: Shard(%d) = %v", c.what, i, r)
			}
		}
	}
}

func TestPrefixes(t *testing.T) { // P25.1: each shard's replica lies under a prefix of its own
	g := newGroup(t, 1, parts(), options(1, 5))
	g.rounds(3)
	g.step(call(0, txn(1, 1), create(people()), put("t", num(1), text("a"))))
	g.rounds(1)
	for _, name := range g.disks[0].List("") {
		if !strings.HasPrefix(name, "0/") && !strings.HasPrefix(name, "1/") && !strings.HasPrefix(name, "2/") {
			t.Errorf("there is the file %q", name)
		}
	}
	for i, mark := range []byte("cir") {
		r, e := replica.Open(g.disks[0].Twin(), fmt.Sprint(i, "/"), 0, 1, g.o.Options)
		if e != api.OK {
			t.Fatalf("replica.Open = %v", e)
		}
		pairs, e := r.Scan(nil, nil, math.MaxUint64)
		if e != api.OK || len(pairs) != 1 || pairs[0].Key[0] != mark {
			t.Errorf("the shard %d has %q, %v", i, pairs, e)
		}
		if y := g.nodes[0].Shard(i); r.Applied() != y.Applied() || r.Raft().Term != y.Raft().Term {
			t.Errorf("the shard %d: applied %d; want %d", i, r.Applied(), y.Applied())
		}
	}
}

func TestNothing(t *testing.T) { // P25.2: packets that aren't for the node
	g := newGroup(t, 3, parts(), options(1, 5))
	g.rounds(6)
	good := ask(1, 0, locks(txn(4, 4), "c"))
	for what, change := range map[string]func(p *session.Packet){
		"to another node":   func(p *session.Packet) { p.To = 0 },
		"to nobody":         func(p *session.Packet) { p.To = -1 },
		"a shard too great": func(p *session.Packet) { p.Shard = 3 },
		"a shard below 0":   func(p *session.Packet) { p.Shard = -1 },
		"a Reply":           func(p *session.Packet) { p.Kind = session.Reply },
		"no kind":           func(p *session.Packet) { p.Kind = 0 },
		"a kind too great":  func(p *session.Packet) { p.Kind = 6 },
	} {
		p := good
		change(&p)
		if got, e := g.nodes[1].Step(p); e != api.OK || len(got) != 0 {
			t.Errorf("%s: Step = %v, %v", what, got, e)
		}
	}
	for _, kind := range []int{session.Raft, session.Call, session.Answer, session.Ask} {
		p := call(1, txn(4, 4), get("t", num(1)))
		p.Kind, p.Shard = kind, 9
		if got, e := g.nodes[1].Step(p); e != api.OK || len(got) != 0 || len(g.nodes[1].Busy()) != 0 {
			t.Errorf("of kind %d, a shard that is none: Step = %v, %v", kind, got, e)
		}
	}
	if got := g.step(good); len(got) != 1 {
		t.Errorf("Step = %v", got)
	}
}

func TestRaft(t *testing.T) { // P25.2: messages go out as packets, of their shard
	g := newGroup(t, 3, parts(), options(1, 5))
	g.tick(0)
	got := g.tick(0)
	if len(got) != 6 {
		t.Fatalf("Tick = %v", got)
	}
	for i, p := range got {
		if p.Kind != session.Raft || p.Shard != i/2 || p.To != 1+i%2 || p.Msg.To != p.To || p.Msg.From != 0 || p.Msg.Kind != raft.PreVote {
			t.Errorf("packet %d is %+v", i, p)
		}
	}
	got = g.step(got[2])
	if len(got) != 1 || got[0].Kind != session.Raft || got[0].Shard != 1 || got[0].To != 0 || got[0].Msg.Kind != raft.PreVoted || !got[0].Msg.OK {
		t.Errorf("Step = %v", got)
	}
	for _, m := range g.step(got[0]) {
		if m.Msg.Kind != raft.Vote || m.Shard != 1 {
			t.Errorf("Step = %v", m)
		}
	}
}

func TestAsk(t *testing.T) { // P25.1, P25.2: what is asked is answered when it is applied
	g := newGroup(t, 1, parts(), options(1, 50))
	g.rounds(3)
	x := txn(5, 8)
	answer := session.Packet{Kind: session.Answer, From: 0, To: 9, Shard: 2, Round: 3, Txn: x, Cmd: shard.Lock, Res: shard.Result{Status: lock.Granted, Ts: 1}}
	for range 2 {
		sent(t, "Lock", g.step(ask(0, 2, locks(x, "r"))), answer)
	}
	answer.Cmd, answer.Res = shard.Decide, shard.Result{Record: shard.Record{Commit: true, Ts: 1, Writes: []api.Write{{Key: []byte("r"), Value: []byte("1")}}, Reply: []byte("yes")}}
	sent(t, "Decide", g.step(ask(0, 2, shard.Cmd{Kind: shard.Decide, Txn: x, Commit: true, Ts: 1, Writes: answer.Res.Record.Writes, Reply: []byte("yes")})), answer)
	answer.Cmd, answer.Res = shard.Finish, shard.Result{}
	sent(t, "Finish", g.step(ask(0, 2, shard.Cmd{Kind: shard.Finish, Txn: x, Commit: true, Ts: 1, Writes: []api.Write{{Key: []byte("r"), Value: []byte("1")}}})), answer)
	if pairs, e := g.nodes[0].Shard(2).Look(nil, nil, 1); e != api.OK || len(pairs) != 1 {
		t.Errorf("stored is %q, %v", pairs, e)
	}
	p := ask(0, 2, locks(x, "r"))
	p.Data = []byte("no command")
	answer.Cmd, answer.Res = 0, shard.Result{Err: api.ErrForm}
	sent(t, "no command", g.step(p), answer)
	p.Data, answer.Res = nil, shard.Result{}
	sent(t, "nothing", g.step(p), answer)
	p.Data = make([]byte, raftlog.MaxData+1)
	sent(t, "too long", g.step(p))
	if len(g.nodes[0].Busy()) != 0 {
		t.Errorf("Busy = %v", g.nodes[0].Busy())
	}
}

func TestAskWithoutRoom(t *testing.T) { // P25.2: without room nothing is answered
	g := newGroup(t, 1, nil, options(1, 50))
	g.rounds(3)
	g.disks[0].Append("full", make([]byte, 1<<26-g.disks[0].Used()))
	sent(t, "Lock", g.step(ask(0, 0, locks(txn(1, 1), "r"))))
	sent(t, "Tick", g.tick(0))
	if open := g.nodes[0].Shard(0).Open(); len(open) != 0 {
		t.Errorf("the locks know %v", open)
	}
}

func TestAnsweredLate(t *testing.T) { // P25.2: an Answer goes out when the entry is applied, with the term in which it was proposed, and then alone
	for _, stays := range []bool{true, false} {
		o := options(1, 50)
		o.Keep = 100
		g := newGroup(t, 3, nil, o)
		g.rounds(6)
		got := g.step(ask(0, 0, locks(txn(1, 1), "r")))
		if len(got) != 2 || len(ofKind(session.Raft, got)) != 2 {
			t.Fatalf("sent is %v", got)
		}
		g.way = nil
		if stays { // node 1 has the entry, but node 0 isn't told so
			g.step(got[0])
			g.way = nil
		}
		among := func(p session.Packet) bool { return p.To != 0 && p.From != 0 }
		for n := 0; g.nodes[1].Shard(0).Raft().Role() != raft.Leader; n++ {
			if n > 50 {
				t.Fatal("node 1 doesn't lead")
			}
			g.tick(1 + n%2)
			g.drain(among)
		}
		g.step(ask(1, 0, locks(txn(2, 1), "q"))) // of it the same index, if the other one is gone
		answers := g.drain(among)
		if len(answers) != 1 || answers[0].From != 1 || answers[0].Txn != txn(2, 1) {
			t.Fatalf("node 1 answers %v", answers)
		}
		g.tick(1)
		answers = g.drain(all)
		if g.nodes[0].Shard(0).Raft().Role() == raft.Leader || g.nodes[0].Shard(0).Applied() != g.nodes[1].Shard(0).Applied() {
			t.Fatal("node 0 doesn't follow")
		}
		if !stays {
			sent(t, "an entry that is gone", answers)
			continue
		}
		sent(t, "an entry that stays", answers, session.Packet{Kind: session.Answer, From: 0, To: 9, Round: 3, Txn: txn(1, 1), Cmd: shard.Lock, Res: shard.Result{Status: lock.Granted, Ts: 1}})
	}
}

func TestDead(t *testing.T) { // P25.1: whenever the disk dies, what was answered is there, and the same is answered again
	died := 0
	for k := range 60 {
		g := newGroup(t, 1, parts(), options(1, 3))
		g.rounds(3)
		g.step(call(0, txn(1, 1), create(people())))
		replied(t, "Create", 0, g.rounds(2), txn(1, 1), rows(1))
		g.disks[0].Arm(k)
		before := g.nodes[0]
		g.step(call(0, txn(2, 1), put("t", num(1), text("a"))))
		got := ofKind(session.Reply, append(g.drain(all), g.rounds(1)...))
		if g.nodes[0] == nil {
			died++
			for range 2 { // it is dead
				if list, e := before.Tick(); e != api.ErrDead || len(list) > 0 {
					t.Fatalf("Tick of a dead one = %v, %v", list, e)
				}
				if list, e := before.Step(call(0, txn(2, 1), put("t", num(1), text("a")))); e != api.ErrDead || len(list) > 0 {
					t.Fatalf("Step of a dead one = %v, %v", list, e)
				}
				if e := before.Rest(); e != api.ErrDead {
					t.Fatalf("Rest of a dead one = %v", e)
				}
			}
		}
		g.disks[0].Arm(-1)
		g.disks[0].Crash(k, k/3)
		g.way = nil
		g.start(0)
		g.rounds(3)
		if len(got) > 0 { // it was answered, so it is there
			g.step(call(0, txn(4, 1), get("t", num(1))))
			replied(t, "Get", 0, g.rounds(5), txn(4, 1), plan.Reply{Rows: [][][]api.Cell{{{num(1), text("a")}}}})
		}
		g.step(call(0, txn(2, 1), put("t", num(1), text("a"))))
		again := ofKind(session.Reply, g.rounds(8))
		if len(again) != 1 || len(got) > 0 && !bytes.Equal(again[0].Data, got[0].Data) {
			t.Fatalf("armed with %d: answered is %v, and then %v", k, got, again)
		}
		g.rounds(8)
		for i := range 3 {
			if open := g.nodes[0].Shard(i).Open(); len(open) > 0 {
				t.Fatalf("armed with %d: the locks of %d know %v", k, i, open)
			}
		}
	}
	if died < 10 || died > 55 {
		t.Errorf("it died %d times", died)
	}
}

func TestRest(t *testing.T) { // P25.1
	g := newGroup(t, 1, parts(), options(1, 5))
	g.rounds(3)
	g.step(call(0, txn(0, 1), create(people())))
	g.rounds(1)
	for seq := range uint64(5) {
		g.step(call(0, txn(2, seq+1), put("t", num(1), text(fmt.Sprint(seq)))))
		g.rounds(1)
	}
	x := g.nodes[0]
	there := func(i int) int {
		list, _ := x.Shard(i).Versions()
		return len(list)
	}
	if there(1) < 5 || there(2) != 5 {
		t.Fatalf("there are %d and %d versions", there(1), there(2))
	}
	for range 3 {
		if e := x.Rest(); e != api.OK {
			t.Fatalf("Rest = %v", e)
		}
	}
	for i := range 3 {
		if there(i) != 1 || x.Shard(i).Low() != x.Shard(i).Closed() {
			t.Errorf("the shard %d has %d versions, Low %d, Closed %d", i, there(i), x.Shard(i).Low(), x.Shard(i).Closed())
		}
	}
	g.step(call(0, txn(2, 6), put("t", num(1), text("b"))))
	g.rounds(1)
	g.disks[0].Append("full", make([]byte, 1<<26-g.disks[0].Used()))
	if _, e := x.Shard(2).Rest(); e != api.ErrFull {
		t.Fatalf("Rest of a replica without room = %v", e)
	}
	if e := x.Rest(); e != api.OK {
		t.Errorf("Rest without room = %v", e)
	}
	g.disks[0].Remove("full")
	g.disks[0].Arm(1)
	if e := x.Rest(); e != api.ErrDead {
		t.Errorf("Rest of a disk that dies = %v", e)
	}
}
