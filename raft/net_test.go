package raft

import (
	"fmt"
	"math/rand/v2"
	"testing"

	"caisson/api"
)

// net is a few nodes, what is on its way among them, and what was seen of them.
type net struct {
	*testing.T
	limit    int
	nodes    []*Node
	way      []Msg
	leaders  map[uint64]int   // by terms
	agreed   map[uint64]Entry // by indexes
	most     uint64           // the greatest of these
	proposed int
	seen     map[string]int
}

func newNet(t *testing.T, n, limit int, seen map[string]int) *net {
	w := &net{T: t, limit: limit, leaders: map[uint64]int{}, agreed: map[uint64]Entry{}, seen: seen}
	for id := range n {
		r, _ := New(id, n, limit, fresh())
		w.nodes = append(w.nodes, r)
	}
	return w
}

// kept is a state that shares nothing with the node.
func kept(s State) State {
	entries := s.Entries
	s.Entries = nil
	for _, x := range entries {
		s.Entries = append(s.Entries, e(x.Term, string(x.Data)))
	}
	return s
}

// event is an event of a node: what must hold behind it, if it held ahead of it.
func (w *net) event(id int, do func(r *Node) []Msg) {
	w.Helper()
	r := w.nodes[id]
	term, commit, led := r.Term, r.Commit(), r.Role() == Leader
	w.way = append(w.way, do(r)...)
	if r.Term < term || r.Commit() < commit || !plainForm(len(w.nodes), r.State) { // P17.2
		w.Fatalf("node %d: term %d, commit %d; was %d, %d; %+v", id, r.Term, r.Commit(), term, commit, r.State)
	}
	if r.Role() == Leader { // P17.3
		if other, there := w.leaders[r.Term]; there && other != id {
			w.Fatalf("in the term %d there lead %d and %d", r.Term, other, id)
		}
		w.leaders[r.Term] = id
		if !led {
			w.seen["leaders"]++
			w.begins(r)
		}
	}
	w.agrees(id)
}

// begins looks whether who begins to lead has all that is agreed on.
func (w *net) begins(r *Node) { // P17.5
	w.Helper()
	if r.Last() < w.most {
		w.Fatalf("a leader has entries up to %d; agreed on is %d", r.Last(), w.most)
	}
	for i, x := range w.agreed {
		if term, there := r.TermAt(i); there && term != x.Term {
			w.Fatalf("a leader has the term %d at %d; agreed on is %d", term, i, x.Term)
		}
	}
}

// agrees looks whether what is agreed on at a node is what is agreed on.
func (w *net) agrees(id int) { // P17.5
	w.Helper()
	r := w.nodes[id]
	for i := r.Base; i <= r.Commit(); i++ {
		if i == 0 {
			continue
		}
		x, there := w.agreed[i]
		if term, _ := r.TermAt(i); i == r.Base {
			if !there || x.Term != term {
				w.Fatalf("node %d has the base %d with the term %d; agreed on is %v, %v", id, i, term, x, there)
			}
			continue
		}
		own := r.Entries[i-r.Base-1]
		if there && !sameEntry(own, x) {
			w.Fatalf("node %d: agreed on at %d is %v; elsewhere %v", id, i, own, x)
		}
		if !there {
			w.agreed[i], w.most = e(own.Term, string(own.Data)), max(w.most, i)
		}
	}
}

// match looks whether logs with the same term at an index are the same up to it.
func (w *net) match() { // P17.4
	w.Helper()
	for i, a := range w.nodes {
		for j, b := range w.nodes[:i] {
			same := false
			for at := min(a.Last(), b.Last()); at > max(a.Base, b.Base); at-- {
				x, y := a.Entries[at-a.Base-1], b.Entries[at-b.Base-1]
				if same = same || x.Term == y.Term; same && !sameEntry(x, y) {
					w.Fatalf("%d and %d have the same term above %d, but there %v and %v", i, j, at, x, y)
				}
			}
		}
	}
}

// again begins a node anew, with the state that it had.
func (w *net) again(id int) {
	s := kept(w.nodes[id].State)
	r, err := New(id, len(w.nodes), w.limit, s)
	if err != api.OK {
		w.Fatalf("New(%+v) = %v", s, err)
	}
	w.nodes[id] = r
	w.agrees(id)
}

func (w *net) tick(id int) { w.event(id, (*Node).Tick) }

func (w *net) deliver(m Msg) {
	w.event(m.To, func(r *Node) []Msg {
		wants, base := r.Wants(m), r.Base
		out := r.Step(m)
		if wants != (r.Base != base) {
			w.Fatalf("Wants = %v; the base was %d, and is %d", wants, base, r.Base)
		}
		if wants {
			w.seen["installed"]++
		}
		return out
	})
}

// propose proposes something that nobody else does; its index, 0 if that one doesn't lead.
func (w *net) propose(id int) (out uint64) {
	w.event(id, func(r *Node) []Msg {
		leads, last := r.Role() == Leader, r.Last()
		w.proposed++
		i, msgs, err := r.Propose([]byte(fmt.Sprint(w.proposed)))
		if leads != (err == api.OK) || leads && i != last+1 {
			w.Fatalf("Propose = %d, %v; last was %d", i, err, last)
		}
		out = i
		return msgs
	})
	return out
}

// storm lets anything happen, of which each thing has its weight.
func (w *net) storm(r *rand.Rand, steps int, weights [6]int) {
	sum := 0
	for _, x := range weights {
		sum += x
	}
	for range steps {
		id := r.IntN(len(w.nodes))
		at := 0
		if len(w.way) > 0 {
			at = r.IntN(len(w.way))
			if r.IntN(2) == 0 {
				at = r.IntN(min(3, len(w.way)))
			}
		}
		what := 0
		for x := r.IntN(sum); x >= weights[what]; what++ {
			x -= weights[what]
		}
		switch {
		case what == 0:
			w.tick(id)
		case what == 1:
			w.propose(id)
		case what == 2:
			w.again(id)
		case what == 3:
			w.event(id, func(n *Node) []Msg {
				n.Compact(n.Base + uint64(r.IntN(int(n.Commit()-n.Base)+1)))
				return nil
			})
		case len(w.way) == 0:
		case what == 4: // it comes, and perhaps comes again
			m := w.way[at]
			if r.IntN(4) > 0 {
				w.way = append(w.way[:at], w.way[at+1:]...)
			}
			w.deliver(m)
		default: // it is lost
			w.way = append(w.way[:at], w.way[at+1:]...)
		}
		if len(w.way) > 200 {
			w.way = w.way[100:]
		}
		w.match()
	}
}

// all delivers all messages among some nodes, till there are none.
func (w *net) all(up map[int]bool) {
	for len(w.way) > 0 {
		m := w.way[0]
		w.way = w.way[1:]
		if up[m.From] && up[m.To] {
			w.deliver(m)
		}
	}
}

// round: each of some nodes ticks once; all messages come, at once or behind all ticks.
func (w *net) round(up map[int]bool, together bool) {
	for id := range w.nodes {
		if up[id] {
			w.tick(id)
			if !together {
				w.all(up)
			}
		}
	}
	w.all(up)
}

// calm looks whether a majority agrees at last.
func (w *net) calm(r *rand.Rand) { // P17.6
	w.Helper()
	up := map[int]bool{}
	for _, id := range r.Perm(len(w.nodes))[:len(w.nodes)/2+1+r.IntN(len(w.nodes)-len(w.nodes)/2)] {
		up[id] = true
	}
	together := r.IntN(2) == 0
	for range 20 + 10*(w.limit+len(w.nodes)) {
		w.round(up, together)
	}
	leader := -1
	for id := range up {
		if w.nodes[id].Role() == Leader {
			if leader >= 0 {
				w.Fatalf("two lead when it is calm: %d, %d", leader, id)
			}
			leader = id
		}
	}
	if leader < 0 {
		w.Fatalf("nobody leads when it is calm")
	}
	var asked uint64
	for range 40 { // more than go into one message
		asked = w.propose(leader)
	}
	for range 5 {
		w.round(up, together)
	}
	for id := range up {
		n := w.nodes[id]
		if n.Commit() < asked || n.Lead() != leader || n.Last() != n.Commit() {
			w.Fatalf("node %d: commit %d, last %d, lead %d; want %d, and %d", id, n.Commit(), n.Last(), n.Lead(), asked, leader)
		}
	}
	w.match()
}

// weather are weights: of ticks, proposals, new beginnings, compactions, messages that come, messages that are lost.
var weather = [][6]int{
	{20, 10, 1, 1, 80, 5}, {20, 10, 5, 15, 60, 20}, {30, 10, 2, 10, 50, 1}, {10, 20, 0, 20, 90, 0}, {40, 5, 10, 2, 60, 10}, {10, 10, 1, 10, 40, 40}, {5, 30, 1, 1, 90, 3},
}

// story is some weather, and calm behind it, again and again.
func story(t *testing.T, r *rand.Rand, steps int, seen map[string]int) {
	w := newNet(t, 1+r.IntN(api.MaxNodes), 1+r.IntN(6), seen)
	for range 3 {
		w.storm(r, steps, weather[r.IntN(len(weather))])
		if r.IntN(2) == 0 {
			w.way = nil
		}
		w.calm(r)
	}
	seen["agreed"] += int(w.most)
	seen["terms"] += len(w.leaders)
}

func TestNets(t *testing.T) { // P17.2, P17.3, P17.4, P17.5, P17.6
	seen := map[string]int{}
	for seed := range uint64(300) {
		story(t, rand.New(rand.NewPCG(17, seed)), 400, seen)
	}
	if seen["leaders"] < 1000 || seen["installed"] < 100 || seen["agreed"] < 10000 {
		t.Errorf("too little was seen: %v", seen)
	}
}

func FuzzNets(f *testing.F) { // P17.3, P17.4, P17.5, P17.6
	f.Add(uint64(1), uint64(2))
	f.Fuzz(func(t *testing.T, a, b uint64) { story(t, rand.New(rand.NewPCG(a, b)), 300, map[string]int{}) })
}
