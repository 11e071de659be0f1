package world

import (
	"bytes"
	"fmt"
	"math"
	"reflect"
	"slices"
	"testing"

	"caisson/api"
	"caisson/lsm"
	"caisson/node"
	"caisson/plan"
	"caisson/raft"
	"caisson/replica"
	"caisson/session"
)

func txn(session, seq uint64) api.Txn         { return api.Txn{Session: session, Seq: seq} }
func create(t api.Table) plan.Op              { return plan.Op{Kind: plan.Create, Def: t} }
func put(table string, c ...api.Cell) plan.Op { return plan.Op{Kind: plan.Put, Table: table, Cells: c} }
func get(table string, c ...api.Cell) plan.Op { return plan.Op{Kind: plan.Get, Table: table, Cells: c} }

// usual are options of a world with room.
func usual() Options {
	return Options{Options: node.Options{Options: replica.Options{Limit: 3, Keep: 50, Lsm: lsm.Options{Mem: 1 << 20, Block: 1000, Fan: 4}}, Every: 1, Patience: 15}, Room: 1 << 26}
}

func newWorld(t *testing.T, n int, splits [][]byte) *World {
	t.Helper()
	w, e := New(n, splits, usual())
	if e != api.OK {
		t.Fatalf("New = %v", e)
	}
	return w
}

// asks has a client ask.
func (w *World) asks(session, to int, ops ...plan.Op) {
	w.Do(Event{Kind: Ask, A: session, B: to, Ops: ops})
}

// packets are those on their way, as they are read; the zero one, where that can't be.
func (w *World) packets() []session.Packet {
	var out []session.Packet
	for _, p := range w.way {
		x, _ := session.Read(p.data)
		out = append(out, x)
	}
	return out
}

// last is the reply that came last.
func (w *World) last(t *testing.T) Answered {
	t.Helper()
	h := w.History()
	if len(h.Replies) == 0 {
		t.Fatal("there is no reply")
	}
	return h.Replies[len(h.Replies)-1]
}

func TestExampleOne(t *testing.T) { // P26.1, P26.3
	w := newWorld(t, 1, nil)
	w.Calm(10)
	if w.Node(0).Shard(0).Raft().Role() != raft.Leader {
		t.Error("it doesn't lead")
	}
	w.asks(0, 0, create(defs()[0]))
	w.Calm(20)
	h := w.History()
	if len(h.Calls) != 1 || len(h.Replies) != 1 || h.Replies[0].Reply.Err != api.OK || !slices.Equal(h.Order, []api.Txn{txn(0, 1)}) || len(w.Open()) != 0 {
		t.Errorf("History = %v", h)
	}
}

func TestExampleTwo(t *testing.T) { // P26.1
	w := newWorld(t, 1, nil)
	w.asks(3, 0, create(defs()[0]))
	w.asks(3, 0, create(defs()[1]))
	h := w.History()
	if len(h.Calls) != 1 || w.Net() != 2 || !slices.Equal(w.Open(), []api.Txn{txn(3, 1)}) || !reflect.DeepEqual(h.Calls[0].Ops, []plan.Op{create(defs()[0])}) {
		t.Errorf("History = %v, Net = %d", h, w.Net())
	}
	if p := w.packets(); !bytes.Equal(p[1].Data, plan.Encode([]plan.Op{create(defs()[0])})) || p[1].Txn != txn(3, 1) {
		t.Errorf("on their way are %v", p)
	}
}

func TestNew(t *testing.T) { // P26.1
	for _, c := range []struct {
		n      int
		splits [][]byte
		limit  int
		want   api.Errno
	}{
		{1, nil, 1, api.OK}, {5, [][]byte{{1}, {2}, {3}}, 1000, api.OK}, {0, nil, 1, api.ErrArg}, {-1, nil, 1, api.ErrArg}, {6, nil, 1, api.ErrArg}, {math.MaxInt, nil, 1, api.ErrArg}, {math.MinInt, nil, 1, api.ErrArg},
		{1, nil, 0, api.ErrArg}, {1, nil, 1001, api.ErrArg}, {1, [][]byte{{}}, 1, api.ErrForm}, {1, [][]byte{{2}, {1}}, 1, api.ErrForm}, {3, make([][]byte, 4), 1, api.ErrSize}, {3, [][]byte{make([]byte, 401)}, 1, api.ErrSize},
		{6, make([][]byte, 4), 1, api.ErrArg}, {1, [][]byte{{}}, 0, api.ErrArg},
	} {
		o := usual()
		o.Limit = c.limit
		w, e := New(c.n, c.splits, o)
		if e != c.want || (w == nil) != (e != api.OK) {
			t.Errorf("New(%d, %v), limit %d = %v, %v; want %v", c.n, c.splits, c.limit, w, e, c.want)
		}
		if e != api.OK {
			continue
		}
		for i := -2; i < 8; i++ {
			if (w.Node(i) != nil) != (i >= 0 && i < c.n) {
				t.Errorf("of %d nodes Node(%d) = %v", c.n, i, w.Node(i))
			}
		}
		if h := w.History(); w.Net() != 0 || len(w.Open()) != 0 || len(h.Calls)+len(h.Replies)+len(h.Order) != 0 {
			t.Errorf("a new world has %d packets, %v", w.Net(), h)
		}
	}
}

func TestRoom(t *testing.T) { // P26.1: each disk has this room
	for _, room := range []int{1 << 26, 0, -5, 300} {
		o := usual()
		o.Room = room
		w, e := New(1, nil, o)
		if e != api.OK {
			t.Fatalf("New = %v", e)
		}
		w.Calm(10)
		w.asks(0, 0, create(defs()[0]))
		w.Calm(20)
		if w.hosts[0].disk.Used() > max(room, 0) || (len(w.Open()) == 0) != (room == 1<<26) {
			t.Errorf("with the room %d: %d are used, open is %v", room, w.hosts[0].disk.Used(), w.Open())
		}
	}
}

func TestScript(t *testing.T) { // P26.4
	one, two := []plan.Op{get("t", num(1))}, []plan.Op{get("t", num(2)), create(defs()[0])}
	for _, c := range []struct {
		b        string
		requests [][]plan.Op
		want     []Event
	}{
		{"", nil, nil}, {"\x00", nil, nil}, {"\x00\x01", nil, nil},
		{"\x05\x01\x02\x09", nil, []Event{{Kind: Ask, A: 1, B: 2, Keeps: []int{2, 1}}}},
		{"\x05\x00\x07\x0f\x01\xff\x19\x02\x00\xff\x03\x04", [][]plan.Op{one, two}, []Event{{Kind: Ask, B: 7, Ops: one, Keeps: []int{7, 0}}, {Kind: Ask, A: 1, B: 255, Ops: two, Keeps: []int{255, 1}}, {Kind: Ask, A: 2, Ops: one, Keeps: []int{0, 2}}, {Kind: Ask, A: 3, B: 4, Ops: two, Keeps: []int{4, 3}}}},
		{"\x00\x05\x06\x09\x01\x00\x0a\xff\xfe\x06\x01\x02ab", [][]plan.Op{one}, []Event{{Kind: Tick, A: 5, B: 6, Keeps: []int{6, 5}}, {Kind: Rest, A: 1, Keeps: []int{0, 1}}, {Kind: Tick, A: 255, B: 254, Keeps: []int{254, 255}}, {Kind: Crash, A: 1, B: 2, Keeps: []int{2, 1}}}},
		{"\x01\x00\x00\x02\x00\x00\x03\x00\x00\x04\x00\x00\x07\x00\x00\x08\x00\x00", nil, []Event{{Kind: Come, Keeps: []int{0, 0}}, {Kind: Double, Keeps: []int{0, 0}}, {Kind: Lose, Keeps: []int{0, 0}}, {Kind: Spoil, Keeps: []int{0, 0}}, {Kind: Start, Keeps: []int{0, 0}}, {Kind: Arm, Keeps: []int{0, 0}}}},
	} {
		if got := Script([]byte(c.b), c.requests...); len(got) != len(c.want) || len(got) > 0 && !reflect.DeepEqual(got, c.want) {
			t.Errorf("Script(%x) = %v; want %v", c.b, got, c.want)
		}
	}
	if Tick != 1 || Come != 2 || Double != 3 || Lose != 4 || Spoil != 5 || Ask != 6 || Crash != 7 || Start != 8 || Arm != 9 || Rest != 10 || MaxClients != 8 {
		t.Error("the kinds are others")
	}
}

func TestTick(t *testing.T) { // P26.1: the node's number by its remainder
	for _, a := range []int{0, 1, 2, 3, 5, -1, -2, -3, math.MaxInt, math.MinInt} {
		w := newWorld(t, 3, nil)
		id := (a%3 + 3) % 3
		for range 3 + id {
			if w.Net() != 0 {
				t.Fatalf("Tick %d: packets too early", a)
			}
			w.Do(Event{Kind: Tick, A: a, B: 7})
		}
		if p := w.packets(); len(p) != 2 || p[0].From != id || p[0].Kind != session.Raft {
			t.Errorf("Tick %d: on their way are %v", a, p)
		}
	}
}

// threeOnWay is a world with three Calls on their way, of the sessions 0 to 2.
func threeOnWay(t *testing.T) *World {
	w := newWorld(t, 1, nil)
	w.Calm(5)
	for i := range 3 {
		w.asks(i, 0)
	}
	return w
}

// sessions are those of the packets on their way.
func (w *World) sessions() []uint64 {
	var out []uint64
	for _, p := range w.packets() {
		out = append(out, p.Txn.Session)
	}
	return out
}

func TestTravel(t *testing.T) { // P26.1: what happens to packets on their way
	for _, a := range []int{0, 1, 2, 3, 4, -1, -3, math.MaxInt, math.MinInt} {
		at := uint64((a%3 + 3) % 3)
		left := slices.DeleteFunc([]uint64{0, 1, 2}, func(i uint64) bool { return i == at })
		w := threeOnWay(t)
		if !slices.Equal(w.sessions(), []uint64{0, 1, 2}) {
			t.Fatalf("on their way are %v", w.sessions())
		}
		w.Do(Event{Kind: Lose, A: a})
		if !slices.Equal(w.sessions(), left) || len(w.Node(0).Busy()) != 0 {
			t.Errorf("Lose %d: on their way are %v", a, w.sessions())
		}
		w = threeOnWay(t)
		w.Do(Event{Kind: Come, A: a}) // its coordinator sends an Ask
		if !slices.Equal(w.sessions(), append(left, at)) || w.packets()[2].Kind != session.Ask || !slices.Equal(w.Node(0).Busy(), []api.Txn{txn(at, 1)}) {
			t.Errorf("Come %d: on their way are %v", a, w.packets())
		}
		w = threeOnWay(t)
		w.Do(Event{Kind: Double, A: a})
		if !slices.Equal(w.sessions(), []uint64{0, 1, 2, at}) || w.packets()[3].Kind != session.Ask || !slices.Equal(w.Node(0).Busy(), []api.Txn{txn(at, 1)}) {
			t.Errorf("Double %d: on their way are %v", a, w.packets())
		}
		w = threeOnWay(t)
		w.Do(Event{Kind: Spoil, A: a, B: 5})
		for i, p := range w.packets() {
			if (p.Kind == 0) != (i == int(at)) {
				t.Errorf("Spoil %d: the packet %d is %v", a, i, p)
			}
		}
	}
	w := newWorld(t, 1, nil)
	for kind := Come; kind <= Spoil; kind++ {
		w.Do(Event{Kind: kind, A: 3, B: 3})
	}
	if w.Net() != 0 || len(w.Node(0).Busy()) != 0 {
		t.Error("a net without packets has some")
	}
}

func TestSpoil(t *testing.T) { // P26.1: one bit, by its remainder, and no second one
	for _, b := range []int{0, 1, 7, 8, 100, 1 << 20, -1, math.MaxInt, math.MinInt} {
		w := threeOnWay(t)
		before := bytes.Clone(w.way[1].data)
		w.Do(Event{Kind: Spoil, A: 1, B: b})
		bits := 8 * len(before)
		bit := (b%bits + bits) % bits
		before[bit/8] ^= 1 << (bit % 8)
		for range 3 {
			if !bytes.Equal(w.way[1].data, before) {
				t.Fatalf("Spoil of the bit %d: %x; want %x", b, w.way[1].data, before)
			}
			w.Do(Event{Kind: Spoil, A: 1, B: b + 1})
			w.Do(Event{Kind: Spoil, A: 1, B: b})
		}
		w.Do(Event{Kind: Double, A: 1})
		w.Do(Event{Kind: Come, A: 1})
		if !slices.Equal(w.sessions(), []uint64{0, 2}) || len(w.Node(0).Busy()) != 0 {
			t.Errorf("a packet that is spoilt is read: on their way are %v", w.packets())
		}
	}
}

func TestMostPackets(t *testing.T) { // P26.1: of more than 200 packets the oldest are lost
	w := newWorld(t, 5, nil)
	for i := range 230 {
		w.asks(i%7, i)
		if want := min(i+1, 200); w.Net() != want {
			t.Fatalf("%d packets; want %d", w.Net(), want)
		}
	}
	for i, p := range w.packets() {
		if p.Kind != session.Call || p.To != (i+30)%5 || p.Txn.Session != uint64((i+30)%7) {
			t.Errorf("the packet %d is %v", i, p)
		}
	}
	for range 3 {
		w.Do(Event{Kind: Tick})
	}
	if p := w.packets(); len(p) != 200 || p[195].Kind != session.Call || p[196].Kind != session.Raft {
		t.Errorf("%d packets, the last ones %v", len(p), p[195:])
	}
}

func TestAsk(t *testing.T) { // P26.1: who asks whom
	for _, c := range []struct{ a, b, session, to int }{{0, 0, 0, 0}, {7, 4, 7, 1}, {8, 3, 0, 0}, {9, -1, 1, 2}, {-1, -2, 7, 1}, {-8, -3, 0, 0}, {math.MaxInt, math.MaxInt, 7, math.MaxInt % 3}, {math.MinInt, math.MinInt, 0, 1}} {
		w := newWorld(t, 3, nil)
		w.Do(Event{Kind: Crash, A: c.b}) // also of a node that is down
		w.asks(c.a, c.b, get("t", num(5)))
		x := txn(uint64(c.session), 1)
		p := w.packets()
		if len(p) != 1 || p[0].Kind != session.Call || p[0].To != c.to || p[0].Txn != x || !slices.Equal(w.Open(), []api.Txn{x}) {
			t.Errorf("Ask %d %d: on their way are %v; open is %v", c.a, c.b, p, w.Open())
		}
		if h := w.History(); len(h.Calls) != 1 || h.Calls[0].Txn != x || h.Calls[0].At != 2 {
			t.Errorf("Ask %d %d: %v", c.a, c.b, h.Calls)
		}
	}
	w := newWorld(t, 1, nil)
	long := []plan.Op{put("t", api.Cell{Kind: api.Bytes, Data: make([]byte, 9000)})}
	w.asks(2, 0, long...)
	if w.Net() != 0 || len(w.Open()) != 0 || len(w.History().Calls) != 0 {
		t.Errorf("a request that is too long: %d packets, %v", w.Net(), w.History())
	}
	w.asks(2, 0)
	w.asks(1, 0)
	w.asks(2, 0, long...)
	if w.Net() != 3 || !slices.Equal(w.Open(), []api.Txn{txn(1, 1), txn(2, 1)}) || len(w.History().Calls) != 2 {
		t.Errorf("%d packets, %v", w.Net(), w.History())
	}
}

// led is a world of three nodes, of which node 0 leads.
func led(t *testing.T, splits [][]byte) *World {
	t.Helper()
	w := newWorld(t, 3, splits)
	w.Calm(8)
	for i := range 3 {
		if lead := w.Node(i).Shard(0).Raft().Role() == raft.Leader; lead != (i == 0) {
			t.Fatalf("node %d leads: %v", i, lead)
		}
	}
	return w
}

func TestCrash(t *testing.T) { // P26.1: a node that is down, and up again
	w := led(t, nil)
	w.asks(0, 0, create(defs()[0]))
	w.Calm(5)
	had := w.Node(1).Shard(0).Applied()
	for range 2 {
		w.Do(Event{Kind: Crash, A: -2})
		if w.Node(1) != nil || w.Node(0) == nil || w.Node(2) == nil {
			t.Fatal("node 1 isn't down, or another one is")
		}
		w.asks(1, 1)
		for _, e := range []Event{{Kind: Tick, A: 1}, {Kind: Arm, A: 1}, {Kind: Rest, A: 1}, {Kind: Crash, A: 1}, {Kind: Come}} {
			w.Do(e)
		}
		if w.Net() != 0 || w.Node(1) != nil || w.hosts[1].disk.Dead() {
			t.Fatalf("a node that is down does something: %v", w.packets())
		}
		w.hosts[1].disk.Append("x", nil) // isn't armed
		w.hosts[1].disk.Remove("x")
		if w.hosts[1].disk.Dead() {
			t.Fatal("the disk of a node that is down is armed")
		}
		w.Do(Event{Kind: Start, A: 1})
		up := w.Node(1)
		if up == nil || up.Shard(0).Applied() != had {
			t.Fatalf("node 1 is %v", up)
		}
		w.Do(Event{Kind: Start, A: 1})
		if w.Node(1) != up {
			t.Error("a node that is up is opened again")
		}
		w.Calm(25)
		had = up.Shard(0).Applied()
	}
}

func TestKeeps(t *testing.T) { // P26.1: of a disk stays what Keeps say, at a Crash, and at the Start of a dead one
	for _, dies := range []bool{false, true} {
		for keep := range 5 {
			w := newWorld(t, 2, nil)
			d := w.hosts[1].disk
			d.Append("x", []byte("abcd"))
			if dies {
				w.Do(Event{Kind: Arm, A: 1, B: -3})
				for w.Node(1) != nil {
					w.Do(Event{Kind: Tick, A: 1})
					w.Do(Event{Kind: Tick, A: 0})
					w.Do(Event{Kind: Come})
				}
				if !d.Dead() || w.Node(0) == nil {
					t.Fatal("the disk isn't dead")
				}
				w.Do(Event{Kind: Crash, A: 1, Keeps: []int{3 - keep%4}}) // it is down already
				if !d.Dead() {
					t.Fatal("the Crash of a node that is down does something")
				}
				w.Do(Event{Kind: Start, A: 1, Keeps: []int{keep, keep}})
			} else {
				w.Do(Event{Kind: Crash, A: 1, Keeps: []int{keep}})
				w.Do(Event{Kind: Start, A: 1, Keeps: []int{3 - keep%4}})
			}
			if b, e := d.Read("x"); e != api.OK || string(b) != "abcd"[:keep] || w.Node(1) == nil {
				t.Errorf("it dies: %v, keep %d: %q, %v", dies, keep, b, e)
			}
		}
	}
}

func TestArm(t *testing.T) { // P26.1: a disk dies behind so many calls; its node is down then, and sends nothing
	for _, c := range []struct{ b, want int }{{0, 0}, {1, 1}, {5, 5}, {-1, 0}, {math.MinInt, 0}} {
		w := newWorld(t, 1, nil)
		w.Calm(5)
		w.Do(Event{Kind: Arm, A: 4, B: c.b})
		twin := w.hosts[0].disk.Twin()
		calls := 0
		for twin.Append("x", nil) == api.OK {
			calls++
		}
		if calls != c.want {
			t.Errorf("Arm %d: it dies behind %d calls; want %d", c.b, calls, c.want)
		}
		w.asks(0, 0)
		for w.Net() > 0 {
			w.Do(Event{Kind: Come})
		}
		if (w.Node(0) == nil) != (c.want < 5) || w.Node(0) == nil && !w.hosts[0].disk.Dead() {
			t.Errorf("Arm %d: node 0 is %v", c.b, w.Node(0))
		}
	}
	w := newWorld(t, 1, nil)
	w.Calm(5)
	for seq := range int64(9) {
		w.asks(0, 0, put("t", num(seq)))
		w.Calm(2)
	}
	w.Do(Event{Kind: Arm})
	w.Do(Event{Kind: Rest})
	if w.Node(0) != nil {
		t.Error("the disk has died at a Rest, and the node is up")
	}
}

func TestRest(t *testing.T) { // P26.1
	w := newWorld(t, 2, nil)
	w.Calm(8)
	w.asks(0, 0, create(defs()[1]))
	w.Calm(5)
	for i := range 5 {
		w.asks(0, 0, put("s", num(1), text(fmt.Sprint(i))))
		w.Calm(5)
	}
	count := func(id int) int {
		list, _ := w.Node(id).Shard(0).Versions()
		return len(list)
	}
	had := count(0)
	w.Do(Event{Kind: Rest, A: -1})
	if count(0) != had || count(1) >= had || w.Node(1).Shard(0).Low() == 0 || w.Net() != 0 {
		t.Errorf("behind the Rest of node 1 the nodes have %d and %d versions of %d", count(0), count(1), had)
	}
}

func TestOtherKinds(t *testing.T) { // P26.1: an event of another kind is nothing
	w := threeOnWay(t)
	before := fmt.Sprint(w.packets(), w.History(), w.Open(), w.Node(0).Busy())
	for _, kind := range []int{0, 11, -1, math.MaxInt, math.MinInt, 100} {
		w.Do(Event{Kind: kind, A: 1, B: 1, Ops: []plan.Op{{}}, Keeps: []int{1}})
	}
	if got := fmt.Sprint(w.packets(), w.History(), w.Open(), w.Node(0).Busy()); got != before {
		t.Errorf("it is %s; was %s", got, before)
	}
}

func TestReplies(t *testing.T) { // P26.1: each Reply that comes counts, also late; others don't
	w := newWorld(t, 1, nil)
	w.Calm(5)
	w.asks(5, 0, create(defs()[0]))
	for w.packets()[0].Kind != session.Reply {
		w.Do(Event{Kind: Come})
	}
	asked, first := w.History().Calls[0].At, w.events+1
	for range 3 {
		w.Do(Event{Kind: Double})
	}
	h := w.History()
	want := plan.Reply{Rows: make([][][]api.Cell, 1)}
	if len(h.Replies) != 3 || len(w.Open()) != 0 || asked >= first {
		t.Fatalf("History = %v, open is %v", h, w.Open())
	}
	for i, r := range h.Replies {
		if r.Txn != txn(5, 1) || r.At != first+i || !bytes.Equal(r.Reply.Bytes(), want.Bytes()) {
			t.Errorf("the reply %d is %v", i, r)
		}
	}
	good := session.Packet{Kind: session.Reply, Txn: txn(5, 1), Data: want.Bytes()}
	w.asks(6, 0)
	for _, change := range []func(p *session.Packet){
		func(p *session.Packet) { p.Code = api.ErrForm },
		func(p *session.Packet) { p.Data = append(p.Data, 0) },
		func(p *session.Packet) { p.Data = nil },
		func(p *session.Packet) { p.Txn.Session = 8 },
		func(p *session.Packet) { p.Txn.Session = math.MaxUint64 },
		func(p *session.Packet) { p.Txn = txn(6, 1); p.Code = api.ErrBusy },
	} {
		p := good
		p.Data = bytes.Clone(p.Data)
		change(&p)
		w.send(p)
		w.Do(Event{Kind: Come, A: -1})
		if len(w.History().Replies) != 3 || !slices.Equal(w.Open(), []api.Txn{txn(6, 1)}) {
			t.Errorf("%v counts", p)
		}
	}
	w.send(good)
	w.Do(Event{Kind: Come, A: -1})
	if len(w.History().Replies) != 4 {
		t.Error("a Reply doesn't count")
	}
}

func TestTo(t *testing.T) { // P26.1: a packet goes to its node, if there is such a one, and it is up
	w := newWorld(t, 2, nil)
	for _, to := range []int{-1, 2, 7, math.MaxInt, math.MinInt} {
		w.send(session.Packet{Kind: session.Call, To: to, Txn: txn(1, 1), Data: plan.Encode(nil)})
		w.Do(Event{Kind: Come})
	}
	w.send(session.Packet{Kind: session.Call, To: 1, Txn: txn(1, 1), Data: plan.Encode(nil)})
	w.Do(Event{Kind: Come})
	if len(w.Node(0).Busy()) != 0 || len(w.Node(1).Busy()) != 1 || w.Net() != 1 {
		t.Errorf("busy are %v and %v", w.Node(0).Busy(), w.Node(1).Busy())
	}
	w.send(session.Packet{Kind: session.Raft, To: 1, Msg: raft.Msg{Data: make([]byte, api.MaxRecord)}}, session.Packet{Kind: 9})
	if w.Net() != 1 {
		t.Error("what can't be sealed is on its way")
	}
}

// TestOrder: the order in which records are first there at the end of an event, on a node that is up.
func TestOrder(t *testing.T) { // P26.1
	w := led(t, nil)
	for i := range 4 {
		w.asks(i, 0, []plan.Op{get("t", num(1))}...)
	}
	w.asks(4, 0, create(defs()[0]))
	w.Calm(10)
	w.asks(0, 0, create(defs()[1]))
	w.Calm(10)
	for range 3 { // without locks: all at the same timestamp
		w.asks(6, 0)
		w.Calm(5)
	}
	order := w.History().Order
	if len(order) != 9 || order[5] != txn(0, 2) || order[8] != txn(6, 3) {
		t.Fatalf("Order = %v", order)
	}
	type decided struct {
		txn api.Txn
		ts  uint64
	}
	var want []decided
	for _, x := range order {
		r, _ := w.Node(0).Shard(0).Record(x)
		want = append(want, decided{x, r.Ts})
	}
	slices.SortFunc(want, func(a, b decided) int {
		switch {
		case a.ts != b.ts:
			return int(a.ts) - int(b.ts)
		case a.txn.Session != b.txn.Session:
			return int(a.txn.Session) - int(b.txn.Session)
		}
		return int(a.txn.Seq) - int(b.txn.Seq)
	})
	w.order, w.undecided = nil, []api.Txn{order[3], order[7], order[8], order[5], txn(7, 7), order[6], order[4], order[2], order[1], order[0]}
	w.Do(Event{Kind: Crash, A: 2}) // as if no node had them till it starts
	w.Do(Event{Kind: Start, A: 2})
	got := w.History().Order
	for i, x := range want {
		if len(got) != len(want) || got[i] != x.txn {
			t.Fatalf("Order = %v; want %v", got, want)
		}
	}
	if !slices.Equal(w.undecided, []api.Txn{txn(7, 7)}) {
		t.Errorf("undecided are %v", w.undecided)
	}
}

// TestOrderOfAborts: what is decided not to commit isn't in the order.
func TestOrderOfAborts(t *testing.T) { // P26.1
	w := led(t, nil)
	w.asks(1, 0, create(defs()[0]))
	w.Calm(5)
	w.asks(2, 2, put("t", num(1), text("a")))
	w.Do(Event{Kind: Come})
	for n := 0; len(w.Node(0).Shard(0).Open()) == 0; n++ {
		w.Do(Event{Kind: Come})
		w.Do(Event{Kind: Tick, A: 2})
	}
	w.Do(Event{Kind: Crash, A: 2}) // its coordinator is gone, and its locks are nobody's
	w.Calm(0)
	for range 30 {
		w.Do(Event{Kind: Tick})
		w.Do(Event{Kind: Tick, A: 1})
		for w.Net() > 0 {
			w.Do(Event{Kind: Come})
		}
	}
	if r, there := w.Node(0).Shard(0).Record(txn(2, 1)); !there || r.Commit {
		t.Fatalf("the record is %v, %v", r, there)
	}
	w.Calm(5)
	h := w.History()
	if r := w.last(t); r.Txn != txn(2, 1) || r.Reply.Err != api.ErrBusy || r.Reply.At != 0 || !slices.Equal(h.Order, []api.Txn{txn(1, 1)}) {
		t.Errorf("History = %v", h)
	}
}

// TestCalm: a calm world's events, one by one.
func TestCalm(t *testing.T) { // P26.3
	for _, n := range []int{1, 2, 3, 5} {
		for _, rounds := range []int{0, 1, 4, 5, 6, 11, 16, -3, math.MinInt} {
			a, b := unrest(t, n), unrest(t, n)
			a.Calm(rounds)
			for id := range n {
				b.hosts[id].disk.Arm(-1)
				b.Do(Event{Kind: Start, A: id})
			}
			for b.Net() > 0 {
				b.Do(Event{Kind: Lose})
			}
			for round := range rounds {
				for _, x := range b.Open() {
					if round%5 == 0 {
						b.Do(Event{Kind: Ask, A: int(x.Session), B: int(x.Session) + round})
					}
				}
				for id := range n {
					b.Do(Event{Kind: Tick, A: id})
					for k := 0; k < 500 && b.Net() > 0; k++ {
						b.Do(Event{Kind: Come})
					}
				}
			}
			if !reflect.DeepEqual(a.packets(), b.packets()) || !reflect.DeepEqual(a.History(), b.History()) || a.events != b.events {
				t.Fatalf("of %d nodes, behind %d rounds: %v, %v, %d; want %v, %v, %d", n, rounds, a.packets(), a.History(), a.events, b.packets(), b.History(), b.events)
			}
			for id := range n {
				twin := a.hosts[id].disk.Twin()
				for range 50 {
					if twin.Append("x", nil) != api.OK || a.Node(id) == nil {
						t.Fatalf("the disk of node %d is armed, or it is down", id)
					}
				}
				for i := range 2 {
					if a.Node(id).Shard(i).Applied() != b.Node(id).Shard(i).Applied() {
						t.Fatalf("node %d has applied something else", id)
					}
				}
			}
		}
	}
}

// unrest is a world with nodes that are down, a dead disk and armed ones, and packets on their way.
func unrest(t *testing.T, n int) *World {
	w := newWorld(t, n, [][]byte{[]byte("r")})
	w.Calm(9)
	w.asks(6, 0, create(defs()[0]))
	w.Do(Event{Kind: Come})
	for i := range 4 {
		w.asks(i, i, get("t", num(1)))
	}
	w.Do(Event{Kind: Arm, A: 1, B: 1})
	for range 9 {
		w.Do(Event{Kind: Come})
		w.Do(Event{Kind: Tick, A: 1})
	}
	w.Do(Event{Kind: Arm, A: 2, B: 3})
	w.Do(Event{Kind: Crash, A: 0})
	return w
}

func TestMostComing(t *testing.T) { // P26.3: 500 packets behind a Tick at most
	busy := func() *World {
		w := newWorld(t, 1, nil)
		w.Calm(9)
		w.asks(0, 0, create(defs()[1]))
		w.Calm(9)
		for i := range int64(MaxClients) {
			var ops []plan.Op
			for k := range int64(16) {
				ops = append(ops, put("s", num(i*100+k), text(fmt.Sprint(i, k))))
			}
			w.asks(int(i), 0, ops...)
		}
		w.Calm(0)
		return w
	}
	a, b := busy(), busy()
	a.Calm(1)
	for i := range MaxClients {
		b.Do(Event{Kind: Ask, A: i})
	}
	b.Do(Event{Kind: Tick})
	for range 500 {
		b.Do(Event{Kind: Come})
	}
	if b.Net() == 0 {
		t.Fatal("all have come")
	}
	if !reflect.DeepEqual(a.packets(), b.packets()) {
		t.Errorf("behind a round there are %d packets: %v; want %d: %v", a.Net(), a.packets(), b.Net(), b.packets())
	}
}
