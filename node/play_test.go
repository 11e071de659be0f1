package node

import (
	"bytes"
	"fmt"
	"maps"
	"math/rand/v2"
	"slices"
	"strconv"
	"testing"

	"caisson/api"
	"caisson/plan"
	"caisson/raft"
	"caisson/row"
	"caisson/session"
	"caisson/shard"
)

// store is what the model has.
type store map[string]string

// run does a request upon it.
func (s store) run(ops []plan.Op) plan.Reply {
	var all []api.Pair
	for _, key := range slices.Sorted(maps.Keys(s)) {
		all = append(all, api.Pair{Key: []byte(key), Value: []byte(s[key])})
	}
	out := plan.Run(ops, plan.Known{Range: api.Range{Excl: true}, Pairs: all})
	for _, w := range out.Writes {
		if delete(s, string(w.Key)); !w.Gone {
			s[string(w.Key)] = string(w.Value)
		}
	}
	return out.Reply
}

// tables are those of scripts.
func tables() []api.Table {
	other := people()
	other.Id, other.Name, other.Indexes[0].Unique = 8, "s", false
	return []api.Table{people(), other}
}

// anyOp is an op on one of the tables.
func anyOp(r *rand.Rand) plan.Op {
	def := tables()[r.IntN(2)]
	id, name := num(r.Int64N(6)), text([]string{"a", "b", "c", "d"}[r.IntN(4)])
	op := plan.Op{Kind: plan.Put, Table: def.Name, Cells: []api.Cell{id, name}, Most: 1 + r.IntN(5)}
	switch k := r.IntN(22); {
	case k < 9:
	case k < 11:
		op.Kind, op.Cells = plan.Remove, op.Cells[:1]
	case k < 13:
		op.Kind, op.Cells = plan.Get, op.Cells[:1]
	case k < 14:
		op.Kind, op.Cells = plan.Expect, op.Cells[:1+r.IntN(2)]
	case k < 16:
		op.Kind, op.Name, op.Cells = plan.Find, "u", op.Cells[1:][:r.IntN(2)]
	case k < 17:
		op.Kind = plan.List
	case k < 18:
		op.Kind, op.Index = plan.AddIndex, api.Index{Name: "y", Cols: []int{1, 0}}
	case k < 19:
		op.Kind, op.Name = plan.DropIndex, "y"
	case k < 21:
		op.Kind = plan.Step
	default:
		return create(def)
	}
	return op
}

// cuts are splits that part tables, indexes and rows in all ways.
func cuts() [][][]byte {
	at := func(n int64) []byte {
		k, _ := row.Key(people(), n, "")
		return k
	}
	return [][][]byte{nil, parts(), {[]byte("i\x08"), at(2), at(4)}, {[]byte("c\x74")}, {at(3), []byte("r\x08")}}
}

func TestOneNode(t *testing.T) { // P25.1: as the model does, through crashes
	seen := map[api.Errno]int{}
	for seed := range uint64(20) {
		r := rand.New(rand.NewPCG(25, seed))
		o := options(1+r.IntN(3), 3+r.IntN(5))
		if seed%4 == 0 {
			o.Lsm.Mem = 500
		}
		g := newGroup(t, 1, cuts()[seed%5], o)
		g.rounds(4)
		model := store{}
		for seq := range uint64(60) {
			x := txn(r.Uint64N(3), seq+1)
			ops := []plan.Op{anyOp(r), anyOp(r), anyOp(r)}[:1+r.IntN(3)]
			if seq == 0 {
				ops = []plan.Op{create(tables()[0]), create(tables()[1])}
			}
			want := model.run(ops)
			seen[want.Err]++
			what := fmt.Sprintf("seed %d, request %d: %v", seed, seq, ops)
			g.step(call(0, x, ops...))
			replied(t, what, 0, g.drain(all), x, want)
			switch r.IntN(8) {
			case 0:
				g.disks[0].Crash(r.IntN(50))
				g.start(0)
				g.rounds(4)
			case 1:
				g.nodes[0].Rest()
			case 2:
				g.step(call(0, x, ops...))
				replied(t, what+", again", 0, g.rounds(2), x, want)
			}
		}
		g.rounds(10)
		has(t, fmt.Sprint("seed ", seed), g.nodes[0], model)
	}
	for _, e := range []api.Errno{api.OK, api.ErrNone, api.ErrThere, api.ErrUnique, api.ErrGuard} {
		if seen[e] < 10 {
			t.Errorf("only so often the error %d: %v", e, seen)
		}
	}
}

// has looks whether a node has just what a model has, and no locks.
func has(t *testing.T, what string, x *Node, model store) {
	t.Helper()
	got := store{}
	for i := 0; x.Shard(i) != nil; i++ {
		if open := x.Shard(i).Open(); len(open) > 0 {
			t.Fatalf("%s: the locks of %d know %v", what, i, open)
		}
		pairs, e := x.Shard(i).Look(nil, nil, x.Shard(i).Closed())
		if e != api.OK {
			t.Fatalf("%s: Look = %v", what, e)
		}
		for _, p := range pairs {
			got[string(p.Key)] = string(p.Value)
		}
	}
	if !maps.Equal(got, model) {
		t.Fatalf("%s: stored is %q; want %q", what, got, model)
	}
}

// crowd is a group with clients, each of which puts a row of its own, and takes part in counting.
type crowd struct {
	*group
	r       *rand.Rand
	clients []*session.Client
	asked   map[api.Txn][]plan.Op
	replies map[api.Txn][]byte
	rows    map[uint64]string // each client's own, by what it was told
	counted map[int64]int     // how often it was told that it has counted so far
	most    int64
	seen    map[string]int
}

// request is what a client asks next.
func (c *crowd) request(i uint64) []plan.Op {
	if c.r.IntN(2) == 0 {
		return []plan.Op{put("s", num(int64(i)+1), text(strconv.Itoa(len(c.asked))))}
	}
	n := max(c.most-int64(c.r.IntN(2)), 0)
	return []plan.Op{{Kind: plan.Expect, Table: "s", Cells: []api.Cell{num(0), text(strconv.FormatInt(n, 10))}}, put("s", num(0), text(strconv.FormatInt(n+1, 10)))}
}

// asks has a client ask, if it has no open request, and call a node.
func (c *crowd) asks(i, to int) {
	client := c.clients[i]
	if _, open := client.Open(); !open {
		ops := c.request(uint64(i))
		x, _ := client.Ask(ops)
		c.asked[x] = ops
	}
	p, _ := client.Call(to)
	c.way = append(c.way, p)
}

// comes is a packet that comes.
func (c *crowd) comes(p session.Packet) {
	c.Helper()
	if p.Kind != session.Reply {
		c.step(p)
		return
	}
	if old, there := c.replies[p.Txn]; p.Code != api.OK || there && !bytes.Equal(old, p.Data) {
		c.Fatalf("a reply to %v: %v, then %v", p.Txn, old, p)
	}
	c.replies[p.Txn] = p.Data
	reply, taken := c.clients[p.Txn.Session].Take(p)
	if !taken {
		return
	}
	ops := c.asked[p.Txn]
	last := ops[len(ops)-1].Cells
	switch {
	case reply.Err == api.OK && len(ops) == 1:
		c.rows[p.Txn.Session] = last[1].Text
	case reply.Err == api.OK:
		n, _ := strconv.ParseInt(last[1].Text, 10, 64)
		c.counted[n]++
		c.most = max(c.most, n)
	case reply.Err != api.ErrBusy && (reply.Err != api.ErrGuard || len(ops) == 1 || reply.At != 0):
		c.Fatalf("the reply to %v is %v", ops, reply)
	}
	c.seen[fmt.Sprint("reply ", int(reply.Err))]++
}

// does one step of a script.
func (c *crowd) does(b, arg byte) {
	c.Helper()
	id := int(arg) % len(c.nodes)
	switch kind := b % 32; {
	case kind < 6:
		c.tick(id)
	case kind < 20 && len(c.way) > 0:
		at := int(arg) % len(c.way)
		if kind > 8 {
			at = 0
		}
		p := c.way[at]
		if kind != 6 {
			c.way = slices.Delete(c.way, at, at+1)
		}
		c.comes(p)
	case kind == 20 && len(c.way) > 0:
		c.way = slices.Delete(c.way, int(arg)%len(c.way), int(arg)%len(c.way)+1)
	case kind < 25:
		c.asks(int(arg)%len(c.clients), int(arg/8)%len(c.nodes))
	case kind == 25 && arg < 60:
		c.nodes[id] = nil
		c.disks[id].Crash(int(arg), int(b))
	case kind == 26 && c.nodes[id] != nil && arg < 100:
		c.disks[id].Arm(int(arg / 3))
	case kind == 27 && c.nodes[id] != nil:
		if c.nodes[id].Rest() == api.ErrDead {
			c.nodes[id] = nil
		}
	case kind < 30:
		c.wake(id, int(arg))
	default:
		for range int(arg) / 4 {
			if len(c.way) > 0 {
				p := c.way[0]
				c.way = c.way[1:]
				c.comes(p)
			}
		}
	}
	if len(c.way) > 150 {
		c.way = slices.Delete(c.way, 0, len(c.way)-150)
	}
}

// wake opens a node that is down.
func (c *crowd) wake(id int, keeps ...int) {
	c.Helper()
	if c.nodes[id] != nil {
		return
	}
	if c.disks[id].Dead() {
		c.disks[id].Crash(keeps...)
	}
	c.start(id)
	c.seen["a start"]++
}

// calm lets all open requests come to an end; each is called once at each node, if it is to, and then no more. P25.3
func (c *crowd) calm(what string) {
	c.Helper()
	for id := range c.nodes {
		c.disks[id].Arm(-1)
		c.wake(id)
	}
	c.way = nil
	for i, x := range c.clients {
		if p, open := x.Call(i % len(c.nodes)); open {
			c.way = append(c.way, p)
		}
	}
	for range 300 {
		for id := range c.nodes {
			c.tick(id)
			for n := 0; n < 2000 && len(c.way) > 0; n++ {
				p := c.way[0]
				c.way = c.way[1:]
				c.comes(p)
			}
		}
		if c.isQuiet() {
			return
		}
	}
	c.Fatalf("%s: it comes to no end", what)
}

// isQuiet: is no request open, has nobody locks, and nobody a coordinator?
func (c *crowd) isQuiet() bool {
	quiet := true
	for _, x := range c.clients {
		_, open := x.Open()
		quiet = quiet && !open
	}
	for _, x := range c.nodes {
		quiet = quiet && len(x.Busy()) == 0
		for i := range len(c.splits) + 1 {
			m := x.Shard(i)
			quiet = quiet && len(m.Open()) == 0 && m.Applied() == c.nodes[0].Shard(i).Applied()
		}
	}
	return quiet
}

// stays looks whether what was answered, and nothing else, is there.
func (c *crowd) stays(what string) {
	c.Helper()
	for id, x := range c.nodes {
		got := map[int64]string{}
		for i := range len(c.splits) + 1 {
			pairs, e := x.Shard(i).Look([]byte("r\x08"), []byte("r\x09"), x.Shard(i).Closed())
			if e != api.OK {
				c.Fatalf("%s: Look = %v", what, e)
			}
			for _, p := range pairs {
				values, e := row.Row(tables()[1], p)
				if e != api.OK {
					c.Fatalf("%s: Row = %v", what, e)
				}
				got[values[0].(int64)] = values[1].(string)
			}
		}
		for i := range c.clients {
			if got[int64(i)+1] != c.rows[uint64(i)] {
				c.Fatalf("%s: node %d has of %d %q; it was told %q", what, id, i, got[int64(i)+1], c.rows[uint64(i)])
			}
		}
		if got[0] != strconv.FormatInt(c.most, 10) {
			c.Fatalf("%s: node %d has counted to %s; told was %d", what, id, got[0], c.most)
		}
		for n := range c.most {
			if c.counted[n+1] != 1 {
				c.Fatalf("%s: %d times it was counted to %d", what, c.counted[n+1], n+1)
			}
		}
	}
}

// play does a script's steps, each of two bytes, calm at times.
func play(t *testing.T, seed uint64, n int, script []byte, seen map[string]int) {
	o := options(1+int(seed%3), 6+int(seed%9))
	if seed%4 == 0 {
		o.Lsm.Mem, o.Keep = 800, 1
	}
	c := &crowd{group: newGroup(t, n, cuts()[seed%5], o), r: rand.New(rand.NewPCG(25, seed)), asked: map[api.Txn][]plan.Op{}, replies: map[api.Txn][]byte{}, rows: map[uint64]string{}, counted: map[int64]int{}, seen: seen}
	for i := range uint64(5) {
		c.clients = append(c.clients, session.New(i))
	}
	c.rounds(12)
	c.step(call(0, txn(9, 1), create(tables()[1]), put("s", num(0), text("0"))))
	if got := c.rounds(20); len(ofKind(session.Reply, got)) != 1 {
		t.Fatalf("sent is %v", got)
	}
	for i := 0; i+1 < len(script); i += 2 {
		c.does(script[i], script[i+1])
		if i%1200 == 1198 {
			c.calm(fmt.Sprint("seed ", seed, ", calm behind ", i/2))
			c.stays(fmt.Sprint("seed ", seed, ", calm behind ", i/2))
		}
	}
	c.calm(fmt.Sprint("seed ", seed, ", calm at last"))
	c.stays(fmt.Sprint("seed ", seed, ", calm at last"))
	seen["most"] += int(c.most)
}

func TestPlays(t *testing.T) { // P25.2, P25.3
	r := rand.New(rand.NewPCG(25, 1))
	seen := map[string]int{}
	for seed := range uint64(60) {
		script := make([]byte, 4000)
		for i := range script {
			script[i] = byte(r.Uint32())
		}
		play(t, seed, []int{3, 2, 5, 1, 4, 3}[seed/5%6], script, seen)
	}
	for what, least := range map[string]int{"reply 0": 500, "reply 12": 50, "reply 15": 50, "a start": 200, "most": 100} {
		if seen[what] < least {
			t.Errorf("only so often %s: %v", what, seen)
		}
	}
}

// FuzzPlay: any script.
func FuzzPlay(f *testing.F) { // P25.2, P25.3
	f.Add(uint64(3), byte(3), []byte("some nodes whose packets come late, twice or never, and whose disks die"))
	f.Fuzz(func(t *testing.T, seed uint64, n byte, script []byte) {
		play(t, seed, 1+int(n)%5, script[:min(len(script), 2000)], map[string]int{})
	})
}

func TestMinority(t *testing.T) { // P25.3: while a majority is up and heard, all calls there are answered, wherever the leader was
	for lost := range 3 {
		g := newGroup(t, 3, parts(), options(2, 10))
		g.rounds(8)
		g.step(call(0, txn(1, 1), create(people())))
		g.rounds(8)
		may := func(p session.Packet) bool { return p.From != lost && p.To != lost }
		for n := range uint64(3) {
			from := (lost + 1 + int(n)%2) % 3
			g.step(call(from, txn(2, n+1), put("t", num(int64(n)), text(fmt.Sprint(n)))))
			var got []session.Packet
			for range 60 {
				for id := range 3 {
					g.tick(id)
					got = append(got, ofKind(session.Reply, g.drain(may))...)
				}
			}
			replied(t, fmt.Sprint("without node ", lost), from, got, txn(2, n+1), rows(1))
		}
		g.rounds(20)
		for id := range 3 {
			if m := g.nodes[id].Shard(2); m.Applied() != g.nodes[0].Shard(2).Applied() || m.Clock() == 0 {
				t.Errorf("node %d has applied %d", id, m.Applied())
			}
		}
	}
}

func TestLeads(t *testing.T) { // P25.2: who leads answers what is asked when most have it, the others who leads
	g := newGroup(t, 5, nil, options(1, 100))
	g.rounds(8)
	for id := range 5 {
		if (g.nodes[id].Shard(0).Raft().Role() == raft.Leader) != (id == 0) {
			t.Fatal("node 0 doesn't lead")
		}
	}
	for heard := range 5 {
		x := txn(uint64(heard), 1)
		got := g.step(ask(0, 0, locks(x, fmt.Sprint("k", heard))))
		if len(got) != 4 {
			t.Fatalf("sent is %v", got)
		}
		left := heard
		answers := g.drain(func(p session.Packet) bool {
			if p.To != 0 {
				left--
			}
			return p.To == 0 || left >= 0
		})
		want := 0
		if heard >= 2 {
			want = 1
		}
		mine := slices.DeleteFunc(answers, func(p session.Packet) bool { return p.Txn != x })
		if len(mine) != want || want > 0 && (mine[0].Kind != session.Answer || mine[0].Cmd != shard.Lock) {
			t.Errorf("%d others have it: answered is %v", heard, mine)
		}
	}
}
