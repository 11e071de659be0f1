package node

import (
	"fmt"
	"math"
	"slices"
	"testing"

	"caisson/api"
	"caisson/coord"
	"caisson/lock"
	"caisson/plan"
	"caisson/raft"
	"caisson/row"
	"caisson/session"
	"caisson/shard"
)

// alone is a node of three that hears of the others what a test says.
type alone struct {
	*group
	id int
}

func newAlone(t *testing.T, splits [][]byte, o Options) alone {
	g := newGroup(t, 3, splits, o)
	return alone{g, 1}
}

func (a alone) tick() []session.Packet {
	a.Helper()
	return slices.DeleteFunc(a.group.tick(a.id), func(p session.Packet) bool { return p.Kind == session.Raft })
}

// busy looks which transactions have a coordinator.
func (a alone) busy(want ...api.Txn) {
	a.Helper()
	if got := a.nodes[a.id].Busy(); !slices.Equal(got, want) {
		a.Fatalf("Busy = %v; want %v", got, want)
	}
}

// sends is the Ask of a command.
func (a alone) sends(to, at, round int, c shard.Cmd) session.Packet {
	return session.Packet{Kind: session.Ask, From: a.id, To: to, Shard: at, Round: round, Txn: c.Txn, Data: shard.Encode(c)}
}

// told is the Answer to a command.
func (a alone) told(at, round int, x api.Txn, cmd int, r shard.Result) session.Packet {
	return session.Packet{Kind: session.Answer, From: 2, To: a.id, Shard: at, Round: round, Txn: x, Cmd: cmd, Res: r}
}

// elsewhere is the Answer that somebody else leads.
func (a alone) elsewhere(from, at, lead int) session.Packet {
	return session.Packet{Kind: session.Answer, From: from, To: a.id, Shard: at, Round: 1, Txn: txn(8, 8), Code: api.ErrLead, Lead: lead}
}

// one is the range of a key.
func one(key []byte, excl bool) api.Range {
	return api.Range{From: key, To: append(slices.Clone(key), 0), Excl: excl}
}

func asks(x api.Txn, r ...api.Range) shard.Cmd {
	return shard.Cmd{Kind: shard.Lock, Txn: x, Ranges: r}
}

var (
	granted = shard.Result{Status: lock.Granted, Ts: 3}
	waiting = shard.Result{Status: lock.Waiting}
)

func TestCoordinates(t *testing.T) { // P25.1, P25.2: from the Call to the end
	a := newAlone(t, parts(), options(100, 100))
	x := txn(7, 1)
	lockEntry := asks(x, one(entry().Key, false))
	sent(t, "Call", a.step(call(1, x, get("t", num(1)))), a.sends(0, 0, 1, lockEntry))
	a.busy(x)
	sent(t, "Call again", a.step(call(1, x, get("t", num(1)))))
	sent(t, "Waiting", a.step(a.told(0, 1, x, shard.Lock, waiting)))
	for what, p := range map[string]session.Packet{
		"another round":       a.told(0, 2, x, shard.Lock, granted),
		"another shard":       a.told(1, 1, x, shard.Lock, granted),
		"another transaction": a.told(0, 1, txn(7, 2), shard.Lock, granted),
		"of a Decide":         a.told(0, 1, x, shard.Decide, granted),
		"of a Finish":         a.told(0, 1, x, shard.Finish, granted),
	} {
		sent(t, what, a.step(p))
		p = a.told(0, 1, x, shard.Lock, granted)
		p.Code = []api.Errno{api.ErrBusy, api.ErrLead, -1}[p.Round%3]
		sent(t, "with a Code", a.step(p))
	}
	a.step(a.elsewhere(0, 0, 0))
	a.step(a.elsewhere(2, 2, 1))
	r := granted
	r.Pairs = []api.Pair{entry()}
	key, _ := row.Key(people(), int64(1))
	sent(t, "Granted", a.step(a.told(0, 1, x, shard.Lock, r)), a.sends(1, 2, 2, asks(x, one(key, false))))
	sent(t, "Granted again", a.step(a.told(0, 1, x, shard.Lock, r)))
	reply := rows(1).Bytes()
	decide := shard.Cmd{Kind: shard.Decide, Txn: x, Commit: true, Ts: 3, Reply: reply}
	sent(t, "the row", a.step(a.told(2, 2, x, shard.Lock, granted)), a.sends(0, 1, 3, decide))
	sent(t, "of a Lock", a.step(a.told(1, 3, x, shard.Lock, granted)))
	sent(t, "of a Finish", a.step(a.told(1, 3, x, shard.Finish, shard.Result{})))
	finish := shard.Cmd{Kind: shard.Finish, Txn: x, Commit: true, Ts: 3}
	replies := session.Packet{Kind: session.Reply, From: 1, Txn: x, Data: reply}
	sent(t, "decided", a.step(a.told(1, 3, x, shard.Decide, shard.Result{Record: shard.Record{Commit: true, Ts: 3, Reply: reply}})), replies, a.sends(0, 0, 4, finish), a.sends(1, 2, 4, finish))
	sent(t, "Call when it is decided", a.step(call(1, x, get("t", num(1)))), replies)
	sent(t, "of a Lock", a.step(a.told(0, 4, x, shard.Lock, granted)))
	sent(t, "one has finished", a.step(a.told(0, 4, x, shard.Finish, shard.Result{})))
	a.busy(x)
	sent(t, "all have", a.step(a.told(2, 4, x, shard.Finish, shard.Result{Err: api.ErrGuard})))
	a.busy()
	sent(t, "behind the end", a.step(a.told(2, 4, x, shard.Finish, shard.Result{})))
}

func TestReplies(t *testing.T) { // P25.2: a Reply to each Call that has come since the last one, one for all of them
	for calls := range 4 {
		a := newAlone(t, nil, options(100, 100))
		x := txn(7, 1)
		for i := range calls + 1 {
			if got := a.step(call(1, x)); len(got) != 1-min(i, 1) {
				t.Fatalf("Call = %v", got)
			}
		}
		record := shard.Result{Record: shard.Record{Reply: []byte("what was decided")}}
		got := a.step(a.told(0, 1, x, shard.Decide, record))
		sent(t, "decided", got, session.Packet{Kind: session.Reply, From: 1, Txn: x, Data: []byte("what was decided")})
		a.busy()
	}
}

func TestCallForm(t *testing.T) { // P25.2: calls that aren't in form
	a := newAlone(t, parts(), options(1, 1))
	const most = 1<<32 - 2
	for _, c := range []struct {
		x    api.Txn
		data []byte
		good bool
	}{
		{txn(1, 1), []byte{9}, false}, {txn(1, 1), nil, false}, {txn(1, 1), append(plan.Encode(nil), 0), false}, {txn(1, 1), make([]byte, 99), false},
		{txn(most+1, 1), plan.Encode(nil), false}, {txn(1, most+1), plan.Encode(nil), false}, {txn(math.MaxUint64, math.MaxUint64), plan.Encode(nil), false}, {txn(most+1, 1), []byte{9}, false},
		{txn(most, most), plan.Encode(nil), true}, {txn(0, 0), plan.Encode(nil), true}, {txn(2, 2), plan.Encode(make([]plan.Op, 300)), true},
	} {
		p := call(1, c.x)
		p.Data = c.data
		got := a.step(p)
		if c.good {
			if len(got) != 1 || got[0].Kind != session.Ask {
				t.Errorf("%v: %v", c.x, got)
			}
			continue
		}
		sent(t, fmt.Sprint("not in form: ", c.x, c.data), got, session.Packet{Kind: session.Reply, From: 1, Txn: c.x, Code: api.ErrForm})
	}
	a.busy(txn(0, 0), txn(2, 2), txn(most, most))
}

func TestBusy(t *testing.T) { // P25.1: by rising Session and Seq
	a := newAlone(t, nil, options(1, 1))
	for _, x := range []api.Txn{txn(3, 1), txn(1, 9), txn(2, 5), txn(1, 10), txn(1, 2)} {
		a.step(call(1, x))
	}
	a.busy(txn(1, 2), txn(1, 9), txn(1, 10), txn(2, 5), txn(3, 1))
	var got []api.Txn
	for _, p := range a.tick() {
		got = append(got, p.Txn)
	}
	if !slices.Equal(got, a.nodes[1].Busy()) {
		t.Errorf("a Tick sends for %v", got)
	}
}

func TestRetry(t *testing.T) { // P25.3: at each Every ticks, to the next node, if no Answer has come
	for _, every := range []int{1, 2, 5, 0, -7} {
		a := newAlone(t, parts(), options(every, 1000))
		every = max(every, 1)
		x := txn(7, 1)
		c := asks(x, one(entry().Key, false))
		sent(t, "Call", a.step(call(1, x, get("t", num(1)))), a.sends(0, 0, 1, c))
		again := func(what string, to int) {
			t.Helper()
			for range every - 1 {
				sent(t, what+": not yet", a.tick())
			}
			sent(t, what, a.tick(), a.sends(to, 0, 1, c))
		}
		for i, to := range []int{0, 1, 2, 0, 1} {
			again(fmt.Sprint("the retry ", i), to)
		}
		a.step(a.told(0, 1, x, shard.Lock, waiting))
		again("behind an Answer", 1)
		again("without one", 2)
		a.step(a.told(1, 1, x, shard.Lock, waiting))
		again("behind an Answer of another shard", 0)
		for _, l := range []struct{ from, lead, want int }{{0, 2, 2}, {2, 2, 2}, {2, 0, 0}, {0, -1, 1}, {1, -1, 2}, {2, -1, 0}, {0, 3, 1}, {1, math.MaxInt, 2}, {1, math.MinInt, 2}, {-1, -1, 0}, {7, -1, 2}, {math.MaxInt, -1, 2}} {
			a.step(a.elsewhere(l.from, 0, l.lead))
			again(fmt.Sprint("behind an Answer of ", l.from, " that ", l.lead, " leads"), l.want)
		}
		a.step(a.elsewhere(2, 1, 0))
		again("another shard is led elsewhere", 0)
	}
}

func TestRetryShards(t *testing.T) { // P25.3: each shard's leader is looked for by itself; also for what is asked first
	o := options(1, 1000)
	a := newAlone(t, [][]byte{[]byte("c\x05")}, o)
	x := txn(7, 1)
	both := []shard.Cmd{asks(x, api.Range{From: []byte("c"), To: []byte("c\x05"), Excl: true}), asks(x, api.Range{From: []byte("c\x05"), To: []byte("d"), Excl: true})}
	sent(t, "Call", a.step(call(1, x, create(people()))), a.sends(0, 0, 1, both[0]), a.sends(0, 1, 1, both[1]))
	sent(t, "a tick", a.tick(), a.sends(0, 0, 1, both[0]), a.sends(0, 1, 1, both[1]))
	a.step(a.told(0, 1, x, shard.Lock, waiting))
	sent(t, "a tick", a.tick(), a.sends(0, 0, 1, both[0]), a.sends(1, 1, 1, both[1]))
	a.step(a.told(0, 1, x, shard.Lock, granted))
	sent(t, "a tick", a.tick(), a.sends(2, 1, 1, both[1]))
	y := txn(9, 1)
	both[0].Txn, both[1].Txn = y, y
	sent(t, "another Call", a.step(call(1, y, create(people()))), a.sends(0, 0, 1, both[0]), a.sends(2, 1, 1, both[1]))
}

func TestRetryTogether(t *testing.T) { // P25.3: each coordinator goes from node to node, as if it were alone
	for _, n := range []int{2, 3} {
		g := newGroup(t, n, nil, options(1, 1000))
		for i := range uint64(n) {
			g.step(call(1, txn(i, 1), get("t", num(1))))
		}
		for to := range 2 * n {
			got := ofKind(session.Ask, g.tick(1))
			if len(got) != n {
				t.Fatalf("sent is %v", got)
			}
			for i, p := range got {
				if p.To != to%n || p.Txn.Session != uint64(i) {
					t.Errorf("of %d nodes: the retry %d of %v goes to %d", n, to, p.Txn, p.To)
				}
			}
		}
	}
}

func TestGivesUp(t *testing.T) { // P25.3: one that waits for too long
	for _, patience := range []int{1, 2, 5, 0, -3} {
		a := newAlone(t, parts(), options(1000, patience))
		ticks := 2 * max(patience, 1)
		x := txn(7, 1)
		a.step(call(1, x, get("t", num(1))))
		for range 3 * ticks {
			sent(t, "it doesn't wait", a.tick())
		}
		a.step(a.told(0, 1, x, shard.Lock, waiting))
		for range ticks - 1 {
			sent(t, "it waits", a.tick())
		}
		r := granted
		r.Pairs = []api.Pair{entry()}
		if got := a.step(a.told(0, 1, x, shard.Lock, r)); len(got) != 1 || got[0].Shard != 2 {
			t.Fatalf("sent is %v", got)
		}
		sent(t, "it doesn't wait", a.tick())
		a.step(a.told(2, 2, x, shard.Lock, waiting))
		for range ticks - 1 {
			sent(t, "it waits", a.tick())
		}
		a.step(a.told(2, 2, x, shard.Lock, waiting))
		decide := shard.Cmd{Kind: shard.Decide, Txn: x, Reply: plan.Reply{Err: api.ErrBusy}.Bytes()}
		sent(t, "it has waited for too long", a.tick(), a.sends(0, 1, 3, decide))
		for range 3 * ticks {
			sent(t, "it has given up", a.tick())
		}
		sent(t, "late", a.step(a.told(2, 2, x, shard.Lock, granted)))
		got := a.step(a.told(1, 3, x, shard.Decide, shard.Result{Record: shard.Record{Reply: decide.Reply}}))
		finish := shard.Cmd{Kind: shard.Finish, Txn: x}
		sent(t, "decided", got, session.Packet{Kind: session.Reply, From: 1, Txn: x, Data: decide.Reply}, a.sends(0, 0, 4, finish), a.sends(0, 2, 4, finish))
	}
	a := newAlone(t, parts(), options(2, math.MaxInt))
	a.step(call(1, txn(7, 1), get("t", num(1))))
	a.step(a.told(0, 1, txn(7, 1), shard.Lock, waiting))
	for range 20 {
		if got := a.tick(); len(got) > 1 || len(got) == 1 && got[0].Round != 1 {
			t.Fatalf("it gives up: %v", got)
		}
	}
}

func TestWaitsWhileRetried(t *testing.T) { // P25.3: it gives up at a tick at which it would send again
	a := newAlone(t, nil, options(1, 2))
	x := txn(7, 1)
	a.step(call(1, x, get("t", num(1))))
	a.step(a.told(0, 1, x, shard.Lock, waiting))
	for range 3 {
		if got := a.tick(); len(got) != 1 || got[0].Round != 1 {
			t.Fatalf("sent is %v", got)
		}
	}
	if got := a.tick(); len(got) != 1 || got[0].Round != 2 {
		t.Fatalf("sent is %v", got)
	}
}

// orphan is the Decide of an orphan.
func orphan(x api.Txn) shard.Cmd {
	return shard.Cmd{Kind: shard.Decide, Txn: x, Reply: plan.Reply{Err: api.ErrBusy}.Bytes()}
}

func TestOrphans(t *testing.T) { // P25.3: of a transaction that nobody seems to care for
	for _, patience := range []int{1, 3, 0, -2} {
		o := options(1000, patience)
		g := newGroup(t, 1, parts(), o)
		g.rounds(3)
		x := txn(4, 9)
		g.step(ask(0, 2, locks(x, "r")))
		g.step(ask(0, 0, locks(x, "c")))
		g.drain(all)
		for range max(patience, 1) - 1 {
			sent(t, "not yet", g.tick(0))
		}
		want := session.Packet{Kind: session.Ask, From: 0, To: 0, Shard: 1, Round: 1, Txn: x, Data: shard.Encode(orphan(x))}
		sent(t, "it is old", g.tick(0), want)
		if busy := g.nodes[0].Busy(); !slices.Equal(busy, []api.Txn{x}) {
			t.Fatalf("Busy = %v", busy)
		}
		sent(t, "it has an orphan", g.tick(0))
		sent(t, "it is over", g.drain(all))
		for i := range 3 {
			if open := g.nodes[0].Shard(i).Open(); len(open) > 0 {
				t.Errorf("the shard %d knows %v", i, open)
			}
		}
		if r, there := g.nodes[0].Shard(1).Record(x); !there || r.Commit || len(g.nodes[0].Busy()) > 0 {
			t.Errorf("the record is %v, %v", r, there)
		}
		g.step(call(0, x, create(people()))) // whoever calls now is told so
		replied(t, "Call", 0, g.drain(all), x, plan.Reply{Err: api.ErrBusy})
		g.step(ask(0, 2, locks(txn(6, 1), "r")))
		g.drain(all)
		for range max(patience, 1) - 1 {
			sent(t, "another one isn't old", g.tick(0))
		}
		if got := g.tick(0); len(got) != 1 || got[0].Txn != txn(6, 1) {
			t.Errorf("sent is %v", got)
		}
	}
}

func TestNoOrphans(t *testing.T) { // P25.3: of one that has a coordinator here, or where another node leads
	g := newGroup(t, 3, nil, options(1000, 4))
	g.rounds(6)
	for id := range 3 {
		if lead := g.nodes[id].Shard(0).Raft().Role() == raft.Leader; lead != (id == 0) {
			t.Fatalf("node %d leads: %v", id, lead)
		}
	}
	x, y := txn(4, 9), txn(5, 1)
	g.step(call(0, x, create(people())))
	g.drain(func(p session.Packet) bool { return p.Kind != session.Answer })
	g.step(ask(0, 0, locks(y, "z")))
	g.drain(all)
	for round := range 4 {
		for id := range 3 {
			for _, p := range g.tick(id) {
				if p.Kind == session.Ask && (p.Txn != y || id != 0 || round != 3) {
					t.Errorf("in the round %d node %d sends %v", round, id, p)
				}
			}
		}
		g.drain(all)
	}
	for id, want := range [][]api.Txn{{x}, nil, nil} {
		if busy := g.nodes[id].Busy(); !slices.Equal(busy, want) {
			t.Errorf("node %d: Busy = %v", id, busy)
		}
	}
	if open := g.nodes[0].Shard(0).Open(); !slices.Equal(open, []api.Txn{x}) {
		t.Errorf("the locks know %v", open)
	}
}

func TestAges(t *testing.T) { // P25.3: a transaction gets older where its shard is led alone
	o := options(1000, 10)
	g := newGroup(t, 3, nil, o)
	g.rounds(6)
	x := txn(4, 9)
	g.step(ask(0, 0, locks(x, "c")))
	g.drain(all)
	for range 9 {
		g.rounds(1)
	}
	if open := g.nodes[1].Shard(0).Open(); !slices.Equal(open, []api.Txn{x}) || len(g.nodes[0].Busy()) != 0 {
		t.Fatalf("the locks know %v; busy is %v", open, g.nodes[0].Busy())
	}
	g.nodes[0] = nil
	for n := 0; g.nodes[1].Shard(0).Raft().Role() != raft.Leader; n++ {
		if n > 50 {
			t.Fatal("node 1 doesn't lead")
		}
		g.tick(1 + n%2)
		g.drain(all)
	}
	for n := range 10 {
		if busy := len(g.nodes[1].Busy()); busy != 0 {
			t.Fatalf("it has an orphan behind %d ticks", n)
		}
		g.tick(1)
	}
	if busy := g.nodes[1].Busy(); !slices.Equal(busy, []api.Txn{x}) || len(g.nodes[2].Busy()) != 0 {
		t.Errorf("busy are %v, %v", busy, g.nodes[2].Busy())
	}
}

func TestAgesOfAFollower(t *testing.T) { // P25.3: who leads no more begins no orphan, however old a transaction is
	for _, leads := range []bool{true, false} {
		g := newGroup(t, 3, nil, options(1000, 3))
		g.rounds(6)
		x := txn(4, 9)
		g.step(ask(0, 0, locks(x, "c")))
		g.drain(all)
		for range 3 {
			g.tick(0)
		}
		told := session.Packet{Kind: session.Answer, To: 0, Round: 1, Txn: x, Cmd: shard.Decide, Res: shard.Result{Record: shard.Record{Reply: []byte("x")}}}
		g.step(told)
		told.Round, told.Cmd = 2, shard.Finish
		g.step(told) // it was finished elsewhere, but isn't yet here
		r := g.nodes[0].Shard(0).Raft()
		if !leads {
			g.step(session.Packet{Kind: session.Raft, To: 0, Msg: raft.Msg{Kind: raft.Append, From: 1, To: 0, Term: r.Term + 1}})
		}
		if busy := g.nodes[0].Busy(); len(busy) != 0 || (r.Role() == raft.Leader) != leads {
			t.Fatalf("it leads: %v; busy is %v", leads, busy)
		}
		g.tick(0)
		if busy := g.nodes[0].Busy(); (len(busy) == 1) != leads || len(g.nodes[0].Shard(0).Open()) != 1 {
			t.Errorf("it leads: %v; behind a tick busy is %v", leads, busy)
		}
	}
}

func TestOrphanAmongCoordinators(t *testing.T) { // P25.3: it is sent again like others, and answers who calls
	g := newGroup(t, 3, parts(), options(3, 2))
	for range 4 {
		g.tick(0)
		g.drain(all)
	}
	x := txn(4, 9)
	g.step(ask(0, 0, locks(x, "c")))
	g.drain(all)
	tick := func() []session.Packet {
		return ofKind(session.Ask, g.tick(0))
	}
	sent(t, "not yet", tick())
	want := session.Packet{Kind: session.Ask, From: 0, To: 0, Shard: 1, Round: 1, Txn: x, Data: shard.Encode(orphan(x))}
	sent(t, "it is old", tick(), want)
	sent(t, "the second tick", tick())
	sent(t, "the third tick", tick(), want)
	sent(t, "Call", g.step(call(0, x, create(people()))))
	g.way = nil
	record := shard.Record{Commit: true, Ts: 2, Writes: []api.Write{{Key: []byte("d"), Value: []byte("1")}}, Reply: []byte("decided ahead")}
	p := session.Packet{Kind: session.Answer, From: 2, To: 0, Shard: 1, Round: 1, Txn: x, Cmd: shard.Decide, Res: shard.Result{Record: record}}
	got := g.step(p)
	sent(t, "decided", ofKind(session.Reply, got), session.Packet{Kind: session.Reply, From: 0, Txn: x, Data: record.Reply})
	for i, p := range ofKind(session.Ask, got) {
		c, e := shard.Decode(p.Data)
		if e != api.OK || p.Shard != i || c.Kind != shard.Finish || !c.Commit || c.Ts != 2 || len(c.Writes) != max(1-i, 0) {
			t.Errorf("sent is %v", p)
		}
	}
	if n := len(ofKind(session.Ask, got)); n != 3 {
		t.Errorf("to %d shards", n)
	}
}

// TestRestarted: answers to a coordinator that has gone with its node come to the next one of the same transaction, which is in another phase in that round.
func TestRestarted(t *testing.T) { // P25.2
	a := newAlone(t, nil, options(100, 100))
	x := txn(7, 1)
	a.step(call(1, x, get("t", num(1))))
	a.disks[1].Crash()
	a.start(1)
	sent(t, "Call", a.step(call(1, x)), a.sends(0, 0, 1, shard.Cmd{Kind: shard.Decide, Txn: x, Commit: true, Ts: 1, Reply: plan.Reply{}.Bytes()}))
	sent(t, "the answer to a Lock", a.step(a.told(0, 1, x, shard.Lock, granted)))
	replied(t, "decided", 1, a.step(a.told(0, 1, x, shard.Decide, shard.Result{Record: shard.Record{Reply: plan.Reply{}.Bytes()}})), x, plan.Reply{})
}

// TestSplitsAreUsed: homes and shards are those of layer 23.
func TestSplitsAreUsed(t *testing.T) { // P25.1
	g := newGroup(t, 1, parts(), options(1, 50))
	g.rounds(3)
	g.step(call(0, txn(1, 1), create(people()), put("t", num(1), text("a"))))
	g.drain(all)
	for session := range uint64(6) {
		g.step(call(0, txn(session, 7), get("t", num(1))))
		replied(t, "Get", 0, g.drain(all), txn(session, 7), plan.Reply{Rows: [][][]api.Cell{{{num(1), text("a")}}}})
		for i := range 3 {
			_, there := g.nodes[0].Shard(i).Record(txn(session, 7))
			if there != (i == coord.Home(parts(), txn(session, 7))) {
				t.Errorf("the record of %d is at %d: %v", session, i, there)
			}
		}
	}
}
