package node

import (
	"fmt"
	"math"
	"math/rand/v2"
	"reflect"
	"slices"
	"strings"
	"testing"

	"caisson/api"
	"caisson/disk"
	"caisson/lock"
	"caisson/lsm"
	"caisson/plan"
	"caisson/raft"
	"caisson/replica"
	"caisson/session"
	"caisson/shard"
)

// whole is all that a value has, the spare room of its lists too.
func whole(v reflect.Value) string {
	var out strings.Builder
	switch v.Kind() {
	case reflect.Slice:
		fmt.Fprint(&out, v.Len(), "[")
		for i := range v.Cap() {
			out.WriteString(whole(v.Slice(0, v.Cap()).Index(i)))
		}
		out.WriteString("]")
	case reflect.Struct:
		for i := range v.NumField() {
			out.WriteString(whole(v.Field(i)))
		}
	default:
		fmt.Fprintf(&out, "%v ", v)
	}
	return out.String()
}

// roomy is a copy of a value whose lists have spare room with something in it.
func roomy(v reflect.Value) reflect.Value {
	out := reflect.New(v.Type()).Elem()
	switch v.Kind() {
	case reflect.Slice:
		all := reflect.MakeSlice(v.Type(), v.Len()+2, v.Len()+2)
		for i := range v.Len() {
			all.Index(i).Set(roomy(v.Index(i)))
		}
		for i := v.Len(); i < all.Len() && v.Len() > 0; i++ {
			all.Index(i).Set(roomy(v.Index(0)))
		}
		out.Set(all.Slice3(0, v.Len(), v.Len()+2))
	case reflect.Struct:
		for i := range v.NumField() {
			out.Field(i).Set(roomy(v.Field(i)))
		}
	default:
		out.Set(v)
	}
	return out
}

// copied is one of a list of packets.
func copied(list []session.Packet) []session.Packet {
	return roomy(reflect.ValueOf(list)).Interface().([]session.Packet)
}

// lists are all lists of a value, those within others behind these.
func lists(v reflect.Value) []reflect.Value {
	var out []reflect.Value
	switch v.Kind() {
	case reflect.Slice:
		out = append(out, reflect.ValueOf(v.Interface())) // so that it stays when the list around it is written over
		for i := range v.Len() {
			out = append(out, lists(v.Index(i))...)
		}
	case reflect.Struct:
		for i := range v.NumField() {
			out = append(out, lists(v.Field(i))...)
		}
	}
	return out
}

// spoil writes over all lists of a value, their spare room too.
func spoil(x any) {
	for _, l := range lists(reflect.ValueOf(x)) {
		for i := range l.Cap() {
			if x := l.Slice(0, l.Cap()).Index(i); x.Kind() == reflect.Uint8 {
				x.SetUint(77)
			} else {
				x.SetZero()
			}
		}
	}
}

// apart looks whether no two lists of some values have memory in common.
func apart(t *testing.T, what string, values ...any) {
	t.Helper()
	type room struct{ from, to uintptr }
	var rooms []room
	for _, x := range values {
		for _, l := range lists(reflect.ValueOf(x)) {
			if size := l.Type().Elem().Size() * uintptr(l.Cap()); size > 0 {
				rooms = append(rooms, room{l.Pointer(), l.Pointer() + size})
			}
		}
	}
	slices.SortFunc(rooms, func(a, b room) int { return int(a.from) - int(b.from) })
	for i := range rooms {
		if i > 0 && rooms[i].from < rooms[i-1].to {
			t.Fatalf("%s: two lists share memory", what)
		}
	}
}

// aCourse is what some nodes send, and are, at a course of requests and losses; in the second one what they are handed and what they answer is written over.
func aCourse(t *testing.T, spoilt bool) string {
	var out strings.Builder
	r := rand.New(rand.NewPCG(25, 4))
	splits := parts()
	o := options(1, 4)
	o.Keep, o.Lsm.Mem = 2, 700
	var nodes []*Node
	for id := range 3 {
		handed := roomy(reflect.ValueOf(splits)).Interface().([][]byte)
		before := whole(reflect.ValueOf(handed))
		x, e := Open(disk.New(1<<24), id, 3, handed, o)
		if e != api.OK || whole(reflect.ValueOf(handed)) != before {
			t.Fatal("Open changes an argument, or fails")
		}
		if spoilt {
			spoil(handed)
		}
		nodes = append(nodes, x)
	}
	var way []session.Packet
	for step := range 4000 {
		var list []session.Packet
		var e api.Errno
		what := fmt.Sprint("the step ", step)
		if len(way) == 0 || step%25 == 0 {
			list, e = nodes[step/25%3].Tick()
			apart(t, what, list)
		} else {
			p := copied(way[:1])[0]
			way = way[1:]
			away := step%1000 > 700 && (p.To == 2 || p.From == 2) // so that it lacks something then
			if p.Kind == session.Reply || r.IntN(40) == 0 || away {
				continue
			}
			before := whole(reflect.ValueOf(p))
			list, e = nodes[p.To].Step(p)
			if whole(reflect.ValueOf(p)) != before {
				t.Fatalf("%s: Step changes a packet of kind %d", what, p.Kind)
			}
			apart(t, what, p, list)
			if spoilt {
				spoil(p)
			}
		}
		if e != api.OK {
			t.Fatalf("%s: %v", what, e)
		}
		way = append(way, copied(list)...)
		fmt.Fprintf(&out, "%v\n", copied(list))
		if spoilt {
			spoil(list)
			for _, x := range nodes {
				spoil(x.Busy())
			}
		}
		fmt.Fprintln(&out, nodes[0].Busy(), nodes[1].Busy(), nodes[2].Busy())
		if step%60 == 59 {
			id := r.IntN(3)
			ops := []plan.Op{anyOp(r), anyOp(r)}
			if step%300 == 59 {
				ops = []plan.Op{create(tables()[0]), create(tables()[1])}
			}
			way = append(way, call(id, txn(r.Uint64N(3), uint64(step)), ops...))
		}
		if len(way) > 60 {
			way = way[20:]
		}
	}
	for _, x := range nodes {
		for i := range 3 {
			b, e := x.Shard(i).Dump()
			fmt.Fprintln(&out, b, e)
		}
	}
	return out.String()
}

func TestMemory(t *testing.T) { // P25.4
	want := aCourse(t, false)
	if got := aCourse(t, true); got != want {
		t.Error("what is handed in is kept, or what is answered is")
	}
	for _, kind := range []int{session.Raft, session.Ask, session.Answer, session.Reply} {
		if n := strings.Count(want, fmt.Sprintf("{%d ", kind)); n < 20 {
			t.Errorf("only %d packets of kind %d", n, kind)
		}
	}
	if !strings.Contains(want, fmt.Sprintf(" {%d 0 2 ", raft.Snap)) && !strings.Contains(want, fmt.Sprintf(" {%d 1 2 ", raft.Snap)) {
		t.Error("no Snap")
	}
}

func TestAlike(t *testing.T) { // P25.4: asked twice alike it answers alike
	if aCourse(t, false) != aCourse(t, false) {
		t.Error("two courses differ")
	}
}

func TestAnyArguments(t *testing.T) { // P1
	numbers := []int{0, 1, 2, 3, 5, 7, -1, math.MaxInt, math.MinInt, math.MaxInt32}
	longs := []uint64{0, 1, 2, 1<<32 - 2, 1<<32 - 1, 1 << 62, math.MaxUint64}
	r := rand.New(rand.NewPCG(25, 6))
	n := func() int { return numbers[r.IntN(len(numbers))] }
	l := func() uint64 { return longs[r.IntN(len(longs))] }
	data := func() []byte {
		switch r.IntN(8) {
		case 0:
			return nil
		case 1:
			return make([]byte, r.IntN(500000))
		case 2:
			return shard.Encode(shard.Cmd{Kind: 1 + r.IntN(3), Txn: txn(l(), l()), Ts: l(), Commit: true, Ranges: []api.Range{{}, {From: []byte("b")}}[:r.IntN(3)], Writes: make([]api.Write, r.IntN(3)), Reply: make([]byte, r.IntN(40000))})
		case 3:
			return plan.Encode([]plan.Op{{Kind: n(), Most: n(), Def: api.Table{Id: n(), Cols: make([]api.Col, 3)}}, anyOp(r)})
		}
		return plan.Encode([]plan.Op{anyOp(r)})
	}
	packet := func(id int) session.Packet {
		m := raft.Msg{Kind: r.IntN(9), From: n(), To: id, Term: l(), Index: l(), LogTerm: l(), Commit: l(), OK: r.IntN(2) == 0, Data: data(), Entries: []raft.Entry{{Term: l(), Data: data()}, {}}[:r.IntN(3)]}
		res := shard.Result{Err: api.Errno(n()), Status: r.IntN(5), Ts: l(), Pairs: []api.Pair{entry(), {}}[:r.IntN(3)], Record: shard.Record{Commit: r.IntN(2) == 0, Ts: l(), Writes: make([]api.Write, r.IntN(3)), Reply: data()}}
		return session.Packet{Kind: r.IntN(8) - 1, From: n(), To: id, Shard: r.IntN(5) - 1, Round: r.IntN(5), Cmd: r.IntN(4), Lead: n(), Txn: txn(l(), l()), Code: []api.Errno{0, 0, 0, api.ErrLead, api.ErrBusy, -1}[r.IntN(6)], Msg: m, Res: res, Data: data()}
	}
	for range 60 {
		d := disk.New(1 << 26)
		o := Options{Options: replica.Options{Limit: n(), Keep: n(), Lsm: lsm.Options{Mem: n(), Block: n(), Fan: n()}}, Every: n(), Patience: n()}
		Open(d, n(), n(), [][][]byte{nil, {{}}, make([][]byte, 9), parts()}[r.IntN(4)], o)
		o.Limit, o.Lsm = 1+r.IntN(3), lsm.Options{Mem: 1 << 20, Block: 100, Fan: 4}
		size := 1 + r.IntN(3)
		x, e := Open(disk.New(1<<26), r.IntN(size), size, parts(), o)
		if e != api.OK {
			t.Fatal(e)
		}
		for range 60 {
			var list []session.Packet
			switch r.IntN(6) {
			case 0:
				list, e = x.Tick()
			case 1:
				e = x.Rest()
			default:
				list, e = x.Step(packet([]int{x.id, x.id, x.id, n()}[r.IntN(4)]))
			}
			if e != api.OK {
				t.Fatalf("an event = %v", e)
			}
			for _, p := range list {
				if p.From != x.id || p.Kind < session.Raft || p.Kind > session.Reply {
					t.Fatalf("sent is %+v", p)
				}
			}
			x.Shard(n())
			x.Busy()
		}
	}
}

// TestStatuses: what a Lock comes to goes through as it is.
func TestStatuses(t *testing.T) { // P25.2
	g := newGroup(t, 1, nil, options(1, 50))
	g.rounds(3)
	for i, want := range []shard.Result{{Status: lock.Granted, Ts: 1}, {Status: lock.Waiting}} {
		x := txn(uint64(i), 1)
		sent(t, "Lock", g.step(ask(0, 0, locks(x, "k"))), session.Packet{Kind: session.Answer, To: 9, Round: 3, Txn: x, Cmd: shard.Lock, Res: want})
	}
	sent(t, "Lock of nothing", g.step(ask(0, 0, shard.Cmd{Kind: shard.Lock, Txn: txn(3, 1)})), session.Packet{Kind: session.Answer, To: 9, Round: 3, Txn: txn(3, 1), Cmd: shard.Lock, Res: shard.Result{Err: api.ErrForm}})
}
