package world

import (
	"fmt"
	"math"
	"reflect"
	"testing"

	"caisson/api"
	"caisson/catalog"
	"caisson/plan"
	"caisson/row"
)

// whole is a world as the document's examples of the whole have it.
func whole(t *testing.T) *World {
	w := newWorld(t, 3, [][]byte{[]byte("i"), []byte("r")})
	w.Calm(15)
	return w
}

// alone asks a request alone, and has calm behind it.
func (w *World) alone(t *testing.T, ops ...plan.Op) plan.Reply {
	t.Helper()
	w.asks(0, 0, ops...)
	w.Calm(20)
	return w.last(t).Reply
}

// comesTo looks what a reply is.
func comesTo(t *testing.T, what string, got plan.Reply, e api.Errno, at int, rows ...[][]api.Cell) {
	t.Helper()
	if got.Err != e || got.At != at || e == api.OK && !reflect.DeepEqual(got.Rows, rows) {
		t.Fatalf("%s: the reply is %v; want %v at %d, %v", what, got, e, at, rows)
	}
}

func ann(id int64, name string) []api.Cell { return []api.Cell{num(id), text(name)} }

func TestExampleUnique(t *testing.T) { // the whole's examples 1 and 2
	w := whole(t)
	comesTo(t, "Create", w.alone(t, create(defs()[0])), api.OK, 0, nil)
	comesTo(t, "once more", w.alone(t, create(defs()[0])), api.ErrThere, 0)
	comesTo(t, "Put", w.alone(t, put("t", ann(1, "a")...)), api.OK, 0, nil)
	comesTo(t, "Put of another row", w.alone(t, put("t", ann(2, "a")...)), api.ErrUnique, 0)
	comesTo(t, "Find", w.alone(t, plan.Op{Kind: plan.Find, Table: "t", Name: "u", Cells: []api.Cell{text("a")}, Most: 5}), api.OK, 0, [][]api.Cell{ann(1, "a")})
}

func TestExampleAll(t *testing.T) { // example 3
	w := whole(t)
	w.alone(t, create(defs()[0]))
	remove := plan.Op{Kind: plan.Remove, Table: "t", Cells: []api.Cell{num(9)}}
	comesTo(t, "three", w.alone(t, put("t", ann(3, "c")...), get("t", num(3)), remove), api.ErrNone, 2)
	comesTo(t, "Get", w.alone(t, get("t", num(3))), api.OK, 0, nil)
}

func TestExampleGuard(t *testing.T) { // example 4
	for seed := range 9 {
		w := whole(t)
		w.alone(t, create(defs()[0]), put("t", ann(1, "a")...))
		guarded := []plan.Op{{Kind: plan.Expect, Table: "t", Cells: ann(1, "a")}, put("t", ann(1, "b")...)}
		w.asks(1, seed, guarded...)
		w.asks(2, seed/3, guarded...)
		for range seed * 7 {
			w.Do(Event{Kind: Come, A: seed})
		}
		w.Calm(60)
		errors, seen := map[api.Txn]api.Errno{}, map[api.Errno]int{}
		for _, r := range w.History().Replies {
			errors[r.Txn] = r.Reply.Err
		}
		for i := range uint64(2) {
			seen[errors[txn(i+1, 1)]]++
		}
		if len(w.Open()) != 0 || seen[api.OK] != 1 || seen[api.ErrGuard]+seen[api.ErrBusy] != 1 {
			t.Errorf("open is %v; replies are %v", w.Open(), seen)
		}
	}
}

func TestExampleThreeCalls(t *testing.T) { // example 5
	w := whole(t)
	w.alone(t, create(defs()[1]))
	next := []plan.Op{put("s", ann(1, "a")...), get("s", num(1))}
	w.asks(3, 0, next...)
	w.asks(3, 1, next...)
	w.asks(3, 2, next...)
	for range 30 {
		for w.Net() > 0 {
			w.Do(Event{Kind: Come})
		}
		for id := range 3 {
			w.Do(Event{Kind: Tick, A: id})
		}
	}
	h := w.History()
	if len(h.Replies) != 4 || len(h.Order) != 2 {
		t.Fatalf("History = %v", h)
	}
	for _, r := range h.Replies[1:] {
		comesTo(t, "one of three", r.Reply, api.OK, 0, nil, [][]api.Cell{ann(1, "a")})
	}
}

func TestExampleCrash(t *testing.T) { // example 6: a crash behind each event, and at each call of the disk
	for _, armed := range []bool{false, true} {
		for k := range 50 {
			w := whole(t)
			w.alone(t, create(defs()[0]))
			w.asks(1, 0, put("t", ann(1, "a")...))
			if armed {
				w.Do(Event{Kind: Arm, B: k})
			}
			for n := 0; n < 60 && (armed || n < k) && w.Net() > 0; n++ {
				w.Do(Event{Kind: Come})
			}
			answered := len(w.Open()) == 0
			w.Do(Event{Kind: Crash})
			w.Calm(60)
			if r := w.last(t); r.Txn != txn(1, 1) || len(w.Open()) != 0 || answered && r.Reply.Err != api.OK {
				t.Fatalf("the reply is %v, open is %v", r, w.Open())
			}
			there := w.last(t).Reply.Err == api.OK
			got := w.alone(t, get("t", num(1)))
			if got.Err != api.OK || (len(got.Rows[0]) == 1) != there {
				t.Fatalf("a crash behind %d: the row is there: %v; Get answers %v", k, there, got)
			}
		}
	}
}

// entries are those of an index, on node 0.
func (w *World) entries(t *testing.T, index int) int {
	t.Helper()
	prefix := row.IndexPrefix(defs()[1], index)
	pairs, e := w.Node(0).Shard(1).Look(prefix, append(prefix[:len(prefix)-1:len(prefix)-1], prefix[len(prefix)-1]+1), w.Node(0).Shard(1).Closed())
	if e != api.OK {
		t.Fatalf("Look = %v", e)
	}
	return len(pairs)
}

// phase is that of a table's last index, and how many indexes it has.
func (w *World) phase(t *testing.T) (int, int) {
	t.Helper()
	b, _, _ := w.Node(0).Shard(0).Read(catalog.Key("s"), math.MaxUint64)
	e, f := catalog.Decode(b)
	if f != api.OK {
		t.Fatalf("Decode = %v", f)
	}
	return e.States[len(e.States)-1].Phase, len(e.States)
}

func TestExampleBuilt(t *testing.T) { // example 7
	w := whole(t)
	w.alone(t, create(defs()[1]), put("s", ann(1, "a")...), put("s", ann(2, "b")...), put("s", ann(3, "c")...))
	step := plan.Op{Kind: plan.Step, Table: "s", Most: 2}
	comesTo(t, "AddIndex", w.alone(t, plan.Op{Kind: plan.AddIndex, Table: "s", Index: api.Index{Name: "y", Cols: []int{1}}}), api.OK, 0, nil)
	comesTo(t, "Step", w.alone(t, step), api.OK, 0, nil)
	if phase, _ := w.phase(t); phase != catalog.Building || w.entries(t, 1) != 2 {
		t.Errorf("phase %d, %d entries", phase, w.entries(t, 1))
	}
	comesTo(t, "Put", w.alone(t, put("s", ann(1, "z")...)), api.OK, 0, nil)
	if w.entries(t, 1) != 2 {
		t.Errorf("%d entries", w.entries(t, 1))
	}
	comesTo(t, "Step", w.alone(t, step), api.OK, 0, nil)
	if phase, _ := w.phase(t); phase != catalog.Public || w.entries(t, 1) != 3 {
		t.Errorf("phase %d, %d entries", phase, w.entries(t, 1))
	}
	comesTo(t, "Find", w.alone(t, plan.Op{Kind: plan.Find, Table: "s", Name: "y", Most: 9}), api.OK, 0, [][]api.Cell{ann(2, "b"), ann(3, "c"), ann(1, "z")})
}

func TestExampleUndone(t *testing.T) { // example 8
	w := whole(t)
	w.alone(t, create(defs()[1]), put("s", ann(1, "a")...), put("s", ann(2, "b")...), put("s", ann(3, "a")...))
	step := plan.Op{Kind: plan.Step, Table: "s", Most: 64}
	comesTo(t, "AddIndex", w.alone(t, plan.Op{Kind: plan.AddIndex, Table: "s", Index: api.Index{Name: "y", Cols: []int{1}, Unique: true}}), api.OK, 0, nil)
	comesTo(t, "the first Step", w.alone(t, step), api.OK, 0, nil)
	if phase, n := w.phase(t); phase != catalog.Undoing || n != 2 {
		t.Errorf("phase %d, %d indexes", phase, n)
	}
	comesTo(t, "the second", w.alone(t, step), api.OK, 0, nil)
	if _, n := w.phase(t); n != 1 || w.entries(t, 1) != 0 {
		t.Errorf("%d indexes, %d entries", n, w.entries(t, 1))
	}
	comesTo(t, "the third", w.alone(t, step), api.ErrNone, 0)
}

func TestExampleAway(t *testing.T) { // example 9
	w := whole(t)
	w.alone(t, create(defs()[0]))
	w.Do(Event{Kind: Crash, A: 2})
	for i := range int64(4) {
		w.asks(1, 0, put("t", ann(i, fmt.Sprint(i))...))
		for w.Net() > 0 {
			w.Do(Event{Kind: Come})
		}
	}
	w.Do(Event{Kind: Start, A: 2})
	at := func(id int) (int, uint64) {
		s := w.Node(id).Shard(2)
		pairs, e := s.Look(nil, nil, s.Closed())
		if e != api.OK {
			t.Fatalf("Look = %v", e)
		}
		return len(pairs), s.Closed()
	}
	if n, ts := at(2); n != 0 || ts != 0 {
		t.Errorf("on the node that was away are %d rows at %d", n, ts)
	}
	if n, ts := at(0); n != 4 || ts == 0 {
		t.Errorf("on the leader are %d rows at %d", n, ts)
	}
	w.Calm(10)
	n, ts := at(0)
	if there, also := at(2); there != n || also != ts || n != 4 {
		t.Errorf("on the node that was away are %d rows at %d; want %d at %d", there, also, n, ts)
	}
}

func TestNoRival(t *testing.T) { // P26.3, P6: in a calm world one without a rival commits, whatever node is called, and whoever leads
	for n := 1; n <= 5; n++ {
		for _, splits := range cuts() {
			w := newWorld(t, n, splits)
			w.Calm(15)
			model := store{}
			for i := range 30 {
				ops := anyRequests(rand1(uint64(n*100+i)), 9)[2+i%7]
				if i < 2 {
					ops = []plan.Op{create(defs()[i])}
				}
				w.asks(i, i*7, ops...)
				w.Calm(12)
				want := model.run(ops)
				if r := w.last(t); len(w.Open()) != 0 || string(r.Reply.Bytes()) != string(want.Bytes()) {
					t.Fatalf("%d nodes, %v: the reply is %v; want %v", n, ops, r.Reply, want)
				}
				if i%6 == 5 {
					w.Do(Event{Kind: Crash, A: i})
				}
			}
		}
	}
}
