package world

import (
	"bytes"
	"cmp"
	"fmt"
	"maps"
	"math"
	"math/rand/v2"
	"slices"
	"testing"

	"caisson/api"
	"caisson/catalog"
	"caisson/lsm"
	"caisson/node"
	"caisson/plan"
	"caisson/replica"
	"caisson/row"
)

func num(n int64) api.Cell   { return api.Cell{Kind: api.Int, Int: n} }
func text(s string) api.Cell { return api.Cell{Kind: api.Text, Text: s} }

// defs are the tables of scripts.
func defs() []api.Table {
	return []api.Table{
		{Id: 1, Name: "t", Cols: []api.Col{{Name: "id", Kind: api.Int}, {Name: "name", Kind: api.Text, Null: true}}, Keys: 1, Indexes: []api.Index{{Name: "u", Cols: []int{1}, Unique: true}}},
		{Id: 2, Name: "s", Cols: []api.Col{{Name: "id", Kind: api.Int}, {Name: "name", Kind: api.Text, Null: true}}, Keys: 1, Indexes: []api.Index{{Name: "x", Cols: []int{1}}}},
	}
}

// anyOp is an op on one of the tables.
func anyOp(r *rand.Rand) plan.Op {
	def := defs()[r.IntN(2)]
	id, name := num(r.Int64N(7)), text([]string{"a", "b", "c", "d", "e", "f"}[r.IntN(6)])
	op := plan.Op{Kind: plan.Put, Table: def.Name, Cells: []api.Cell{id, name}, Most: 1 + r.IntN(5)}
	switch k := r.IntN(22); {
	case k < 9:
	case k < 11:
		op.Kind, op.Cells = plan.Remove, []api.Cell{id}
	case k < 13:
		op.Kind, op.Cells = plan.Get, []api.Cell{id}
	case k < 14:
		op.Kind, op.Cells = plan.Expect, op.Cells[:1+r.IntN(2)]
	case k < 16:
		op.Kind, op.Name, op.Cells = plan.Find, def.Indexes[0].Name, []api.Cell{name}[:r.IntN(2)]
	case k < 17:
		op.Kind = plan.List
	case k < 18:
		op.Kind, op.Index = plan.AddIndex, api.Index{Name: "y", Cols: []int{1, 0}, Unique: r.IntN(2) == 0}
	case k < 19:
		op.Kind, op.Name = plan.DropIndex, "y"
	case k < 21:
		op.Kind = plan.Step
	default:
		return plan.Op{Kind: plan.Create, Def: def}
	}
	return op
}

// anyRequests are some.
func anyRequests(r *rand.Rand, n int) [][]plan.Op {
	out := [][]plan.Op{{{Kind: plan.Create, Def: defs()[0]}}, {{Kind: plan.Create, Def: defs()[1]}}}
	for len(out) < n {
		var ops []plan.Op
		for range 1 + r.IntN(3) {
			ops = append(ops, anyOp(r))
		}
		out = append(out, ops)
	}
	return out
}

// cuts are splits that part tables, indexes and rows in all ways.
func cuts() [][][]byte {
	at := func(id, n int64) []byte {
		k, _ := row.Key(defs()[id-1], n, "")
		return k
	}
	return [][][]byte{nil, {[]byte("i"), []byte("r")}, {[]byte("i\x02\x00"), at(1, 3), at(1, 5)}, {at(1, 2), []byte("r\x02")}, {[]byte("c\x72"), []byte("i\x01"), []byte("r")}, {at(1, 4)}}
}

// store is what the model has.
type store map[string]string

// run does a request upon it.
func (s store) run(ops []plan.Op) plan.Reply {
	out := plan.Run(ops, plan.Known{Range: api.Range{Excl: true}, Pairs: s.pairs()})
	for _, w := range out.Writes {
		if delete(s, string(w.Key)); !w.Gone {
			s[string(w.Key)] = string(w.Value)
		}
	}
	return out.Reply
}

func (s store) pairs() []api.Pair {
	var out []api.Pair
	for _, key := range slices.Sorted(maps.Keys(s)) {
		out = append(out, api.Pair{Key: []byte(key), Value: []byte(s[key])})
	}
	return out
}

// judged is a world whose promises are looked at.
type judged struct {
	*testing.T
	*World
	what string
	seen map[string]int
}

// order looks at the history. P26.1
func (j *judged) order() {
	j.Helper()
	h := j.History()
	calls := map[api.Txn]Called{}
	for _, c := range h.Calls {
		if _, twice := calls[c.Txn]; twice {
			j.Fatalf("%s: %v is called twice", j.what, c.Txn)
		}
		calls[c.Txn] = c
	}
	s := store{}
	want := map[api.Txn]plan.Reply{}
	place := map[api.Txn]int{}
	for i, txn := range h.Order {
		c, there := calls[txn]
		if _, twice := want[txn]; twice || !there {
			j.Fatalf("%s: the order is %v; calls are %v", j.what, h.Order, h.Calls)
		}
		want[txn] = s.run(c.Ops)
		place[txn] = i
		j.seen[fmt.Sprint("commit ", int(want[txn].Err))]++
	}
	for _, a := range h.Replies {
		c, there := calls[a.Txn]
		if !there || a.At <= c.At {
			j.Fatalf("%s: a reply %v to %v", j.what, a, c)
		}
		r, commits := want[a.Txn]
		if !commits {
			r = plan.Reply{Err: api.ErrBusy}
			j.seen["busy"]++
		}
		if !bytes.Equal(a.Reply.Bytes(), r.Bytes()) {
			j.Fatalf("%s: the reply to %v, which commits: %v, is %v; want %v", j.what, c, commits, a.Reply, r)
		}
		if !commits {
			continue
		}
		for _, later := range h.Calls {
			at, there := place[later.Txn]
			if there && later.At > a.At && at < place[a.Txn] {
				j.Fatalf("%s: %v, called at %d, is ahead of %v, answered at %d", j.what, later.Txn, later.At, a.Txn, a.At)
			}
		}
	}
}

// shards are how many there are.
func (j *judged) shards() int { return len(j.splits) + 1 }

// state looks at what is stored, at a timestamp that is closed on all nodes that are up. P26.2
func (j *judged) state() {
	j.Helper()
	h := j.History()
	ts, low := uint64(math.MaxUint64), uint64(0)
	up := 0
	for i := range j.hosts {
		x := j.Node(i)
		if x == nil {
			continue
		}
		up++
		for s := range j.shards() {
			ts, low = min(ts, x.Shard(s).Closed()), max(low, x.Shard(s).Low())
		}
	}
	if up == 0 || low > ts {
		j.seen["no state"]++
		return
	}
	want := store{}
	for _, txn := range h.Order {
		if r, there := j.record(txn); there && r <= ts {
			i := slices.IndexFunc(h.Calls, func(c Called) bool { return c.Txn == txn })
			want.run(h.Calls[i].Ops)
		}
	}
	for i := range j.hosts {
		x := j.Node(i)
		if x == nil {
			continue
		}
		var got []api.Pair
		for s := range j.shards() {
			pairs, e := x.Shard(s).Look(nil, nil, ts)
			if e != api.OK {
				j.Fatalf("%s: Look = %v", j.what, e)
			}
			got = append(got, pairs...)
		}
		if !samePairs(got, want.pairs()) {
			j.Fatalf("%s: node %d has at %d\n%q\nwant\n%q", j.what, i, ts, got, want.pairs())
		}
	}
	j.entries(want)
	j.seen["states"]++
}

func samePairs(a, b []api.Pair) bool {
	return slices.EqualFunc(a, b, func(x, y api.Pair) bool { return bytes.Equal(x.Key, y.Key) && bytes.Equal(x.Value, y.Value) })
}

// record is the timestamp of a commit that some node that is up knows.
func (j *judged) record(txn api.Txn) (uint64, bool) {
	for i := range j.hosts {
		if x := j.Node(i); x != nil {
			for s := range j.shards() {
				if r, there := x.Shard(s).Record(txn); there && r.Commit {
					return r.Ts, true
				}
			}
		}
	}
	return 0, false
}

// entries looks whether just those entries are there that tables and rows ask for.
func (j *judged) entries(s store) {
	j.Helper()
	var want []api.Pair
	var got []api.Pair
	for _, p := range s.pairs() {
		if p.Key[0] == 'i' {
			got = append(got, p)
		}
		if p.Key[0] != 'c' {
			continue
		}
		e, f := catalog.Decode(p.Value)
		if f != api.OK {
			j.Fatalf("%s: Decode = %v", j.what, f)
		}
		var rows []api.Pair
		for _, q := range s.pairs() {
			if bytes.HasPrefix(q.Key, row.Prefix(e.Table)) {
				rows = append(rows, q)
			}
		}
		list, f := catalog.Expected(e, rows...)
		if f != api.OK {
			j.Fatalf("%s: Expected = %v", j.what, f)
		}
		want = append(want, list...)
	}
	slices.SortFunc(want, func(a, b api.Pair) int { return bytes.Compare(a.Key, b.Key) })
	if !samePairs(got, want) {
		j.Fatalf("%s: entries are %q; want %q", j.what, got, want)
	}
}

// ended looks at the end. P26.3
func (j *judged) ended() {
	j.Helper()
	if open := j.Open(); len(open) > 0 {
		j.Fatalf("%s: open is %v", j.what, open)
	}
	h := j.History()
	want := store{}
	for _, txn := range h.Order {
		i := slices.IndexFunc(h.Calls, func(c Called) bool { return c.Txn == txn })
		want.run(h.Calls[i].Ops)
	}
	for i := range j.hosts {
		x := j.Node(i)
		var got []api.Pair
		for s := range j.shards() {
			m, first := x.Shard(s), j.Node(0).Shard(s)
			if open := m.Open(); len(open) > 0 {
				j.Fatalf("%s: node %d, shard %d: locks are held by %v", j.what, i, s, open)
			}
			if m.Applied() != first.Applied() || m.Clock() != first.Clock() || m.Closed() != first.Closed() {
				j.Fatalf("%s: node %d, shard %d: applied %d, clock %d, closed %d; node 0: %d, %d, %d", j.what, i, s, m.Applied(), m.Clock(), m.Closed(), first.Applied(), first.Clock(), first.Closed())
			}
			pairs, e := m.Scan(nil, nil, math.MaxUint64)
			if e != api.OK {
				j.Fatalf("%s: Scan = %v", j.what, e)
			}
			got = append(got, pairs...)
		}
		if len(x.Busy()) > 0 {
			j.Fatalf("%s: node %d is busy with %v", j.what, i, x.Busy())
		}
		if !samePairs(got, want.pairs()) {
			j.Fatalf("%s: node %d has\n%q\nwant\n%q", j.what, i, got, want.pairs())
		}
	}
}

// someOptions are those of worlds that come to an end.
func someOptions() []Options {
	var out []Options
	for _, o := range []replica.Options{{Keep: 5}, {Keep: 1, Lsm: lsm.Options{Mem: 2000, Block: 100, Fan: 3}}, {Keep: 50, Lsm: lsm.Options{Mem: 100000, Block: 300, Fan: 2}}, {Keep: 7, Lsm: lsm.Options{Mem: 1 << 20, Block: 1000, Fan: 4}}} {
		o.Limit = 3
		out = append(out, Options{Options: node.Options{Options: o, Every: 1, Patience: 15}, Room: 1 << 26})
	}
	return out
}

// anyEvents are some events; the mood tells how much goes wrong.
func anyEvents(r *rand.Rand, mood, events int, requests [][]plan.Op) []Event {
	kinds := [][]int{
		{10, 10, 10, 10, 10, 10, 10, 10, 10, 10},
		{10, 10, 2, 1, 1, 4, 1, 2, 1, 1},
		{10, 20, 5, 5, 5, 6, 2, 4, 2, 1},
		{10, 10, 0, 0, 0, 6, 0, 1, 0, 1},
		{10, 10, 1, 1, 1, 6, 0, 5, 4, 1},
	}[mood%5]
	var all []int
	for i, n := range kinds {
		for range n {
			all = append(all, i+1)
		}
	}
	var out []Event
	for len(out) < events {
		e := Event{Kind: all[r.IntN(len(all))], A: r.IntN(1000), B: r.IntN(1000), Keeps: []int{r.IntN(300), r.IntN(300)}}
		if e.Kind == Ask {
			e.Ops = requests[r.IntN(len(requests))]
		}
		if e.Kind == Arm {
			e.B %= 60
		}
		out = append(out, e)
		if e.Kind == Come {
			for range r.IntN(60) {
				e := Event{Kind: Come, A: r.IntN(4) * r.IntN(2)}
				if mood%5 > 0 && r.IntN(20) == 0 {
					e.Kind = []int{Double, Lose}[r.IntN(2)]
				}
				out = append(out, e)
			}
		}
	}
	return out
}

// firsts does some events, and looks whether the order is that in which the records of commits are first there.
func firsts(t *testing.T, seed uint64) int {
	r := rand1(seed)
	w, e := New(1+int(seed%5), cuts()[seed%6], someOptions()[seed%4])
	if e != api.OK {
		t.Fatalf("New = %v", e)
	}
	w.Calm(12)
	w.Do(Event{Kind: Ask, Ops: []plan.Op{{Kind: plan.Create, Def: defs()[0]}, {Kind: plan.Create, Def: defs()[1]}}})
	w.Calm(8)
	want := w.History().Order
	for i, e := range anyEvents(r, []int{1, 3, 4}[seed%3], 2500, anyRequests(r, 40)) {
		w.Do(e)
		type commit struct {
			api.Txn
			ts uint64
		}
		var found []commit
		for _, c := range w.calls {
			for id := range w.hosts {
				for s := 0; w.Node(id) != nil && w.Node(id).Shard(s) != nil; s++ {
					x, there := w.Node(id).Shard(s).Record(c.Txn)
					if there && x.Commit && !slices.Contains(want, c.Txn) && !slices.Contains(found, commit{c.Txn, x.Ts}) {
						found = append(found, commit{c.Txn, x.Ts})
					}
				}
			}
		}
		slices.SortFunc(found, func(a, b commit) int {
			return cmp.Or(cmp.Compare(a.ts, b.ts), cmp.Compare(a.Session, b.Session), cmp.Compare(a.Seq, b.Seq))
		})
		for _, c := range found {
			want = append(want, c.Txn)
		}
		if got := w.order; !slices.Equal(got, want) {
			t.Fatalf("seed %d: behind the event %d, %v, the order is %v; want %v", seed, i, e, got, want)
		}
	}
	return len(want)
}

func TestOrders(t *testing.T) { // P26.1
	sum := 0
	for seed := range uint64(30) {
		sum += firsts(t, seed)
	}
	if sum < 100 {
		t.Errorf("only %d commits", sum)
	}
}

// play is a world of some events, calm at times, and at last.
func play(t *testing.T, seed uint64, events int, seen map[string]int) {
	r := rand.New(rand.NewPCG(26, seed))
	n := []int{3, 1, 5, 2, 4, 3}[seed%6]
	w, e := New(n, cuts()[r.IntN(6)], someOptions()[r.IntN(4)])
	if e != api.OK {
		t.Fatalf("New = %v", e)
	}
	j := &judged{T: t, World: w, what: fmt.Sprint("seed ", seed), seen: seen}
	w.Calm(15)
	if r.IntN(4) > 0 {
		w.Do(Event{Kind: Ask, Ops: []plan.Op{{Kind: plan.Create, Def: defs()[0]}, {Kind: plan.Create, Def: defs()[1]}}})
		w.Calm(10)
	}
	requests := anyRequests(r, 60)
	calmer := r.IntN(3) * 200
	for i, e := range anyEvents(r, int(seed/6), events, requests) {
		w.Do(e)
		if i%397 == 0 {
			j.state()
		}
		if calmer > 0 && i%calmer == calmer-1 {
			w.Calm(r.IntN(5))
		}
	}
	j.state()
	j.order()
	w.Calm(200)
	j.order()
	j.state()
	j.ended()
}

func TestPlays(t *testing.T) { // P26.1 to P26.3
	seen := map[string]int{}
	for seed := range uint64(90) {
		play(t, seed, 4000, seen)
	}
	for what, least := range map[string]int{"states": 300, "busy": 300, "commit 0": 500, "commit 6": 100, "commit 7": 50, "commit 11": 50, "commit 15": 20, "commit 17": 100} {
		if seen[what] < least {
			t.Errorf("only so often %s: %v", what, seen)
		}
	}
}

func TestFullDisks(t *testing.T) { // P26.1, P26.2: also where there is no room; and whoever loses patience soon, or late
	open := 0
	for seed := range uint64(60) {
		r := rand1(seed + 500)
		o := someOptions()[r.IntN(4)]
		o.Room = 1500 + r.IntN(1<<(10+r.IntN(8)))
		o.Every, o.Patience, o.Keep, o.Limit = 1+r.IntN(3), 1+r.IntN(20), r.IntN(20), 1+r.IntN(4)
		w, e := New(1+int(seed%5), cuts()[r.IntN(6)], o)
		if e != api.OK {
			t.Fatalf("New = %v", e)
		}
		j := &judged{T: t, World: w, what: fmt.Sprint("seed ", seed, ", room ", o.Room), seen: map[string]int{}}
		w.Calm(15)
		for i, e := range anyEvents(r, 1+int(seed/5)%4, 2500, anyRequests(r, 40)) {
			w.Do(e)
			if i%397 == 0 {
				j.state()
				w.Calm(i % 5)
			}
		}
		w.Calm(40)
		j.order()
		j.state()
		open += len(w.Open())
	}
	if open < 50 {
		t.Errorf("only %d requests found no room", open)
	}
}

func TestLongPlays(t *testing.T) { // P26.3: behind as many events as there may be
	for seed := range uint64(6) {
		play(t, 1000+seed*7, 10000, map[string]int{})
	}
}

func TestScripts(t *testing.T) { // P26.1 to P26.4: scripts of any bytes
	r := rand.New(rand.NewPCG(26, 7))
	for range 30 {
		script := make([]byte, 3*1000)
		for i := range script {
			script[i] = byte(r.Uint32())
		}
		playScript(t, byte(r.IntN(5)), script)
	}
}

// playScript is a world of a script.
func playScript(t *testing.T, n byte, script []byte) {
	w, e := New(1+int(n)%5, cuts()[int(n)%6], someOptions()[int(n)%4])
	if e != api.OK {
		t.Fatalf("New = %v", e)
	}
	j := &judged{T: t, World: w, what: fmt.Sprintf("script %x", script), seen: map[string]int{}}
	w.Calm(15)
	for _, e := range Script(script, anyRequests(rand.New(rand.NewPCG(1, uint64(n))), 30)...) {
		w.Do(e)
	}
	j.state()
	w.Calm(200)
	j.order()
	j.state()
	j.ended()
}

// FuzzScript: any script.
func FuzzScript(f *testing.F) { // P26.1 to P26.4
	f.Add(byte(2), []byte("nodes that come and go, packets that are lost or come twice, clients that ask again"))
	f.Fuzz(func(t *testing.T, n byte, script []byte) { playScript(t, n, script[:min(len(script), 6000)]) })
}

func rand1(seed uint64) *rand.Rand { return rand.New(rand.NewPCG(26, seed)) }
