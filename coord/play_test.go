package coord

import (
	"bytes"
	"fmt"
	"maps"
	"math"
	"math/rand/v2"
	"slices"
	"testing"

	"caisson/api"
	"caisson/disk"
	"caisson/lock"
	"caisson/lsm"
	"caisson/mvcc"
	"caisson/plan"
	"caisson/row"
	"caisson/shard"
)

// net is some shards, coordinators that send them commands, and what is on its way.
type net struct {
	*testing.T
	r        *rand.Rand
	splits   [][]byte
	shards   []*shard.Machine
	coords   []*both
	asks     []flight
	answers  []flight
	sessions []api.Txn // the last request of each
	requests map[api.Txn][]plan.Op
	lost     []api.Txn          // whose coordinator has gone once
	replies  map[api.Txn]string // of decisions
	store    map[string]string  // what those leave that have decided to commit, done alone
	seen     map[string]int
}

// flight is a command on its way to a shard, or a result on its way back.
type flight struct {
	from *both
	Send
	r shard.Result
}

// cuts are splits that part tables, indexes and rows in all ways.
func cuts() [][][]byte {
	r := func(id, n int64) []byte {
		k, _ := row.Key(defs()[id-1], n, "")
		return k
	}
	return [][][]byte{nil, at("i", "r"), {[]byte("i\x02\x00"), r(1, 3), r(1, 5)}, {r(1, 2), []byte("r\x02")}, at("c\x72", "i\x01", "r"), {r(1, 4)}}
}

func newNet(t *testing.T, seed uint64) *net {
	n := &net{T: t, r: rand.New(rand.NewPCG(23, seed)), requests: map[api.Txn][]plan.Op{}, replies: map[api.Txn]string{}, store: map[string]string{}, seen: map[string]int{}}
	n.splits = cuts()[seed%6]
	for range len(n.splits) + 1 {
		g, e := lsm.Open(disk.New(math.MaxInt32), "s/", lsm.Options{Mem: 1 << 20, Block: 1000, Fan: 4})
		if e != api.OK {
			t.Fatal(e)
		}
		m, e := shard.Open(mvcc.Of(g))
		if e != api.OK {
			t.Fatal(e)
		}
		n.shards = append(n.shards, m)
	}
	for i := range 6 {
		n.sessions = append(n.sessions, txn(uint64(i), 0))
	}
	return n
}

// put puts commands on their way.
func (n *net) put(from *both, list []Send) {
	for _, s := range list {
		n.asks = append(n.asks, flight{from: from, Send: s})
	}
}

// coordinates begins to coordinate a request; once more perhaps.
func (n *net) coordinates(x api.Txn) *both {
	ops := n.requests[x]
	b := &both{T: n.T, c: New(x, ops, n.splits), p: &plain{x: x, ops: ops, splits: n.splits}, what: fmt.Sprint("the coordinator ", len(n.coords), " of ", x)}
	return n.begins(b)
}

// orphans begins an orphan of all shards.
func (n *net) orphans(x api.Txn) *both {
	var shards []int
	for i := range n.shards {
		shards = append(shards, i)
	}
	b := &both{T: n.T, c: Orphan(x, n.splits, shards...), p: &plain{x: x, splits: n.splits, orphan: true, shards: shards}, what: fmt.Sprint("the orphan ", len(n.coords), " of ", x)}
	n.seen["an orphan"]++
	return n.begins(b)
}

func (n *net) begins(b *both) *both {
	n.coords = append(n.coords, b)
	n.put(b, b.begin())
	return b
}

// apply does a command on its shard, and holds a decision that is made against the request, done alone.
func (n *net) apply(s Send) shard.Result {
	m := n.shards[s.Shard]
	_, there := m.Record(s.Txn)
	r, e := m.Apply(m.Applied()+1, shard.Encode(s.Cmd))
	if e != api.OK {
		n.Fatal(e)
	}
	if s.Kind != shard.Decide || there {
		return r
	}
	if _, twice := n.replies[s.Txn]; twice || r.Err != api.OK || s.Shard != Home(n.splits, s.Txn) {
		n.Fatalf("a decision on %v: %v at %d", s.Txn, r, s.Shard)
	}
	n.replies[s.Txn] = string(r.Record.Reply)
	n.seen[fmt.Sprint("decided ", s.Commit)]++
	if !s.Commit {
		if string(s.Reply) != string(failed(api.ErrBusy, 0)) {
			n.Fatalf("%v is given up with the reply %q", s.Txn, s.Reply)
		}
		return r
	}
	var all []api.Pair
	for _, key := range slices.Sorted(maps.Keys(n.store)) {
		all = append(all, pair(key, n.store[key]))
	}
	alone := plan.Run(n.requests[s.Txn], plan.Known{Range: api.Range{Excl: true}, Pairs: all})
	if !bytes.Equal(s.Reply, alone.Reply.Bytes()) || !slices.EqualFunc(s.Writes, alone.Writes, sameWrite) {
		n.Fatalf("%v decides %.300q, %v; done alone it comes to %.300v, %v", s.Txn, s.Reply, s.Writes, alone.Reply, alone.Writes)
	}
	n.seen[fmt.Sprint("reply ", int(alone.Reply.Err))]++
	for _, w := range alone.Writes {
		if delete(n.store, string(w.Key)); !w.Gone {
			n.store[string(w.Key)] = string(w.Value)
		}
	}
	return r
}

func sameWrite(a, b api.Write) bool {
	return bytes.Equal(a.Key, b.Key) && bytes.Equal(a.Value, b.Value) && a.Gone == b.Gone
}

// comes does what is on its way to a shard, or tells what is on its way back.
func (n *net) comes(f flight, back bool) {
	if !back {
		f.r = n.apply(f.Send)
		n.seen[fmt.Sprint("kind ", f.Kind, " status ", f.r.Status)]++
		n.answers = append(n.answers, f)
		return
	}
	n.put(f.from, f.from.result(f.Shard, f.Round, f.r))
	if reply, known := f.from.c.Reply(); known && string(reply) != n.replies[f.Txn] {
		n.Fatalf("%s has the reply %q; decided was %q", f.from.what, reply, n.replies[f.Txn])
	}
}

// next asks the next request of a session, if the one ahead is decided.
func (n *net) next(session int) {
	x := n.sessions[session]
	if _, known := n.replies[x]; !known && x.Seq > 0 {
		return
	}
	x.Seq++
	n.sessions[session] = x
	var ops []plan.Op
	for range 1 + n.r.IntN(4) {
		ops = append(ops, n.anyOp())
	}
	n.requests[x] = ops
	n.coordinates(x)
}

// does one step of a script.
func (n *net) does(b byte) {
	travel := []*[]flight{&n.asks, &n.answers}[b%2]
	switch kind := b / 2 % 32; {
	case kind < 20 && len(*travel) > 0: // it comes
		i := n.r.IntN(len(*travel))
		f := (*travel)[i]
		if n.r.IntN(6) > 0 {
			*travel = slices.Delete(*travel, i, i+1)
		}
		n.comes(f, b%2 == 1)
	case kind == 20 && len(*travel) > 0: // it is lost
		i := n.r.IntN(len(*travel))
		*travel = slices.Delete(*travel, i, i+1)
	case kind < 24:
		n.next(n.r.IntN(len(n.sessions)))
	case kind < 26:
		for _, b := range n.coords {
			n.put(b, b.c.Retry())
		}
	case kind == 26:
		if x := n.sessions[n.r.IntN(len(n.sessions))]; x.Seq > 0 {
			n.coordinates(txn(x.Session, 1+n.r.Uint64N(x.Seq)))
		}
	case kind == 27 && n.r.IntN(8) == 0:
		if x := n.sessions[n.r.IntN(len(n.sessions))]; x.Seq > 0 {
			n.orphans(txn(x.Session, 1+n.r.Uint64N(x.Seq)))
		}
	case kind == 28 && len(n.coords) > 0 && n.r.IntN(6) == 0: // its node crashes
		i := n.r.IntN(len(n.coords))
		n.lost = append(n.lost, n.coords[i].p.x)
		n.coords = slices.Delete(n.coords, i, i+1)
	case kind == 29 && len(n.coords) > 0 && n.r.IntN(4) == 0:
		b := n.coords[n.r.IntN(len(n.coords))]
		n.put(b, b.giveUp())
	}
	if len(n.asks) > 300 {
		n.asks = n.asks[100:]
	}
	if len(n.answers) > 300 {
		n.answers = n.answers[100:]
	}
}

// settle sends all that is outstanding, and has it answered, again and again. It answers who isn't over then: they wait.
func (n *net) settle() []*both {
	n.Helper()
	n.answers = nil
	for quiet := 0; quiet < 3; quiet++ {
		for _, b := range n.coords {
			round := b.p.round
			for _, s := range b.c.Retry() {
				n.put(b, b.result(s.Shard, s.Round, n.apply(s)))
			}
			if b.p.round != round {
				quiet = 0
			}
		}
	}
	n.coords = slices.DeleteFunc(n.coords, func(b *both) bool { return b.c.Over() })
	for _, b := range n.coords {
		if !b.c.Waits() {
			n.Fatalf("%s neither waits nor is it over: outstanding is %s", b.what, told(b.c.Retry()))
		}
	}
	return n.coords
}

// calm brings all to an end.
func (n *net) calm(what string) {
	n.Helper()
	strays := n.asks
	n.settle()
	for _, x := range n.lost {
		n.orphans(x)
	}
	for left := n.settle(); len(left) > 0; left = n.settle() {
		if len(n.shards) == 1 || len(left) == 1 {
			n.Fatalf("%s: %d are left, and wait for nobody: %s", what, len(left), left[0].what)
		}
		n.seen["waits in a circle"]++
		b := left[n.r.IntN(len(left))]
		if n.r.IntN(2) == 0 {
			n.orphans(b.p.x)
		} else {
			b.giveUp()
		}
	}
	n.isClean(what)
	for _, f := range strays {
		n.apply(f.Send)
	}
	n.isClean(what + ", strays have come")
	n.asks, n.lost = nil, nil
}

// isClean looks whether nobody has locks, and just that is stored which those have left that have decided to commit.
func (n *net) isClean(what string) {
	n.Helper()
	there := map[string]string{}
	for i, m := range n.shards {
		if open := m.Open(); len(open) > 0 {
			n.Fatalf("%s: the shard %d knows %v yet", what, i, open)
		}
		pairs, e := m.Scan(nil, nil, math.MaxUint64)
		if e != api.OK {
			n.Fatal(e)
		}
		for _, p := range pairs {
			if there[string(p.Key)] = string(p.Value); routed(n.splits, string(p.Key)) != i {
				n.Fatalf("%s: %q is on the shard %d", what, p.Key, i)
			}
		}
	}
	if !maps.Equal(there, n.store) {
		n.Fatalf("%s: stored is %q; want %q", what, there, n.store)
	}
	for session, x := range n.sessions {
		if _, known := n.replies[x]; !known && x.Seq > 0 {
			n.Fatalf("%s: %d has no reply to %v", what, session, x)
		}
	}
}

// defs are the tables of scripts.
func defs() []api.Table {
	return []api.Table{
		{Id: 1, Name: "t", Cols: []api.Col{{Name: "id", Kind: api.Int}, {Name: "name", Kind: api.Text, Null: true}}, Keys: 1, Indexes: []api.Index{{Name: "u", Cols: []int{1}, Unique: true}}},
		{Id: 2, Name: "s", Cols: []api.Col{{Name: "id", Kind: api.Int}, {Name: "name", Kind: api.Text, Null: true}}, Keys: 1, Indexes: []api.Index{{Name: "x", Cols: []int{1}}}},
	}
}

// anyOp is an op on one of the tables.
func (n *net) anyOp() plan.Op {
	def := defs()[n.r.IntN(2)]
	id, name := num(n.r.Int64N(7)), text([]string{"a", "b", "c", "d", "e", "f"}[n.r.IntN(6)])
	if e := n.store[string(entryKey(def))]; e == "" && n.r.IntN(4) > 0 {
		return create(def)
	}
	op := plan.Op{Kind: plan.Put, Table: def.Name, Cells: []api.Cell{id, name}, Most: 1 + n.r.IntN(5)}
	switch k := n.r.IntN(20); {
	case k < 8:
	case k < 10:
		op.Kind, op.Cells = plan.Remove, []api.Cell{id}
	case k < 12:
		op.Kind, op.Cells = plan.Get, []api.Cell{id}
	case k < 13:
		op.Kind, op.Cells = plan.Expect, op.Cells[:1+n.r.IntN(2)]
	case k < 15:
		op.Kind, op.Name, op.Cells = plan.Find, def.Indexes[0].Name, []api.Cell{name}[:n.r.IntN(2)]
	case k < 16:
		op.Kind = plan.List
	case k < 17:
		op.Kind, op.Index = plan.AddIndex, api.Index{Name: "y", Cols: []int{1, 0}}
	case k < 18:
		op.Kind, op.Name = plan.DropIndex, "y"
	case k < 19:
		op.Kind = plan.Step
	default:
		return create(def)
	}
	return op
}

func entryKey(def api.Table) []byte { return append([]byte("c"), def.Name+"\x00\x01"...) }

// play does a script: each byte is a step.
func play(t *testing.T, seed uint64, script []byte) map[string]int {
	n := newNet(t, seed)
	for i, b := range script {
		if n.does(b); i%150 == 149 {
			n.calm(fmt.Sprint("calm behind the step ", i))
		}
	}
	n.calm("calm at last")
	return n.seen
}

func TestPlays(t *testing.T) { // P23.2 to P23.4
	r := rand.New(rand.NewPCG(23, 2))
	seen := map[string]int{}
	for i := range 60 {
		script := make([]byte, 1000)
		for i := range script {
			script[i] = byte(r.Uint32())
		}
		for what, n := range play(t, uint64(i), script) {
			seen[what] += n
		}
	}
	for _, what := range []string{"an orphan", "decided true", "decided false", "waits in a circle", fmt.Sprint("kind 1 status ", lock.Granted), fmt.Sprint("kind 1 status ", lock.Waiting), fmt.Sprint("kind 1 status ", lock.Refused), "kind 2 status 0", "kind 3 status 0", "reply 0", "reply 6", "reply 7", "reply 11", "reply 15", "reply 17"} {
		if seen[what] < 10 {
			t.Errorf("only so often %s: %d of %v", what, seen[what], seen)
		}
	}
}

// FuzzPlay: any script.
func FuzzPlay(f *testing.F) { // P23.2 to P23.4
	f.Add(uint64(2), []byte("some coordinators that send, and are sent, what is lost and comes twice"))
	f.Fuzz(func(t *testing.T, seed uint64, script []byte) { play(t, seed, script[:min(len(script), 1000)]) })
}

// answered looks at a reply to a request.
func (n *net) answered(what string, b *both, want api.Errno) {
	n.Helper()
	reply, known := b.c.Reply()
	if got, e := plan.Read(reply); !known || e != api.OK || got.Err != want || !b.c.Over() {
		n.Fatalf("%s: the reply is %v, %v, %v; over: %v; want %d", what, got, e, known, b.c.Over(), want)
	}
}

// calls begins a request of a session.
func (n *net) calls(session int, ops ...plan.Op) *both {
	n.sessions[session].Seq++
	n.requests[n.sessions[session]] = ops
	return n.coordinates(n.sessions[session])
}

// parted is a net on whose shards are: tables and indexes; the rows of t; those of s. Two transactions have each a row of one of them, and want that of the other.
func parted(t *testing.T) (n *net, one, two *both) {
	n = newNet(t, 3)
	made := n.calls(0, create(defs()[0]), create(defs()[1]))
	n.settle()
	n.answered("Create", made, api.OK)
	one = n.calls(1, put("t", num(5), text("a")), put("s", num(5), text("a")))
	two = n.calls(2, put("s", num(5), text("b")), put("t", num(5), text("b")))
	for range 3 { // the entry of the first table, its row, its index; at last the entry of the other one
		for _, b := range n.coords {
			for _, s := range b.c.Retry() {
				b.result(s.Shard, s.Round, n.apply(s))
			}
		}
	}
	return n, one, two
}

func TestCircle(t *testing.T) { // P23.4: who waits in a circle over several shards is freed by one that gives up
	for _, ended := range []func(n *net, x *both){
		func(n *net, x *both) { x.giveUp() },
		func(n *net, x *both) { n.orphans(x.p.x) },
	} {
		for which := range 2 {
			n, one, two := parted(t)
			if left := n.settle(); len(left) != 2 {
				t.Fatalf("%d wait", len(left))
			}
			list := []*both{one, two}
			ended(n, list[which])
			if left := n.settle(); len(left) != 0 {
				t.Fatalf("%d wait yet", len(left))
			}
			n.answered("who gave up", list[which], api.ErrBusy)
			n.answered("who goes on", list[1-which], api.OK)
			n.isClean("a circle")
			if len(n.store) != 2+2+2 {
				t.Errorf("stored is %q", n.store)
			}
		}
	}
}

func TestNobodysLocks(t *testing.T) { // P23.4: who waits for one that has no coordinator is freed by its orphan, or by giving up
	for _, gaveUp := range []bool{false, true} {
		n, one, two := parted(t)
		n.coords = slices.DeleteFunc(n.coords, func(b *both) bool { return b == one })
		if left := n.settle(); len(left) != 1 || left[0] != two {
			t.Fatalf("%d wait", len(left))
		}
		want := api.OK
		if gaveUp {
			two.giveUp()
			want = api.ErrBusy
			if left := n.settle(); len(left) != 0 {
				t.Fatalf("%d wait yet", len(left))
			}
			n.answered("who gave up", two, want)
		}
		orphan := n.orphans(one.p.x)
		if left := n.settle(); len(left) != 0 {
			t.Fatalf("%d wait yet", len(left))
		}
		n.answered("the orphan", orphan, api.ErrBusy)
		n.answered("who waited", two, want)
		n.isClean("nobody's locks")
		late := n.coordinates(one.p.x)
		n.settle()
		n.answered("one that is too late", late, api.ErrBusy)
		n.isClean("one that is too late")
	}
}

func TestManyForOne(t *testing.T) { // P23.3: an orphan, and coordinators of the same transaction: one reply, one effect
	for _, c := range []struct {
		orphan, first bool // is the other one an orphan? Does it decide first?
		want          api.Errno
	}{{true, false, api.OK}, {true, true, api.ErrBusy}, {false, false, api.OK}, {false, true, api.OK}} {
		n := newNet(t, 3)
		n.calls(0, create(defs()[0]))
		n.settle()
		one := n.calls(1, put("t", num(5), text("a")))
		decides := func(b *both) {
			for b.p.phase != "deciding" {
				for _, s := range b.c.Retry() {
					b.result(s.Shard, s.Round, n.apply(s))
				}
			}
		}
		decides(one)
		two := n.coordinates(one.p.x)
		if c.orphan {
			two = n.orphans(one.p.x)
		}
		decides(two)
		if c.first {
			n.apply(two.c.Retry()[0]) // it isn't told yet
		}
		if left := n.settle(); len(left) != 0 {
			t.Fatalf("%d wait", len(left))
		}
		n.answered("the first one", one, c.want)
		n.answered("the second one", two, c.want)
		n.isClean("two for one")
		if rows := len(n.store) - 1; (rows == 2) != (c.want == api.OK) || rows != 0 && rows != 2 {
			t.Errorf("stored is %q", n.store)
		}
		read := n.calls(1, get("t", num(5)))
		n.settle()
		reply, _ := read.c.Reply()
		if got, _ := plan.Read(reply); len(got.Rows) != 1 || (len(got.Rows[0]) == 1) != (c.want == api.OK) {
			t.Errorf("the row is %v", got)
		}
	}
}
