package world

import (
	"bytes"
	"cmp"
	"slices"
	"strings"

	"caisson/api"
	"caisson/plan"
)

// Called: a client's request.
type Called struct {
	Txn api.Txn
	Ops []plan.Op
	At  int
}

// Answered: a reply that came to a client.
type Answered struct {
	Txn   api.Txn
	Reply plan.Reply
	At    int
}

// History: what was asked and answered.
type History struct {
	Calls   []Called
	Replies []Answered
	Order   []api.Txn
}

// history is what of one is kept.
type history struct {
	calls     []Called
	replies   []replied
	order     []api.Txn
	undecided []api.Txn // those called of which no record was seen on a node that was up
}

// replied is a reply that came, as bytes. They are read again each time, so that each answer has its own memory.
type replied struct {
	txn  api.Txn
	data []byte
	at   int
}

// decision is a record that is seen for the first time.
type decision struct {
	api.Txn
	ts uint64
}

// look: which decisions does a node have behind an event that weren't seen yet?
func (w *World) look(h *host) {
	var commits []decision
	for i := range h.seen {
		s := h.node.Shard(i)
		if s.Applied() == h.seen[i] {
			continue
		}
		h.seen[i] = s.Applied()
		w.undecided = slices.DeleteFunc(w.undecided, func(txn api.Txn) bool {
			r, there := s.Record(txn)
			if there && r.Commit {
				commits = append(commits, decision{Txn: txn, ts: r.Ts})
			}
			return there
		})
	}
	slices.SortFunc(commits, func(a, b decision) int {
		return cmp.Or(cmp.Compare(a.ts, b.ts), cmp.Compare(a.Session, b.Session), cmp.Compare(a.Seq, b.Seq))
	})
	for _, d := range commits {
		w.order = append(w.order, d.Txn)
	}
}

// History: what was asked and answered.
func (w *World) History() History {
	h := History{Order: slices.Clone(w.order)}
	for _, c := range w.calls {
		c.Ops = ownOps(c.Ops)
		h.Calls = append(h.Calls, c)
	}
	for _, r := range w.replies {
		reply, _ := plan.Read(r.data)
		h.Replies = append(h.Replies, Answered{Txn: r.txn, Reply: reply, At: r.at})
	}
	return h
}

// own: a list of copies that share no memory.
func own[T any](list []T, copied func(T) T) []T {
	if list == nil {
		return nil
	}
	out := []T{}
	for _, x := range list {
		out = append(out, copied(x))
	}
	return out
}

func ownOps(ops []plan.Op) []plan.Op {
	return own(ops, func(op plan.Op) plan.Op {
		op.Table, op.Name = strings.Clone(op.Table), strings.Clone(op.Name)
		op.Def.Name = strings.Clone(op.Def.Name)
		op.Def.Cols = own(op.Def.Cols, func(c api.Col) api.Col {
			c.Name = strings.Clone(c.Name)
			return c
		})
		op.Def.Indexes = own(op.Def.Indexes, ownIndex)
		op.Index = ownIndex(op.Index)
		op.Cells = own(op.Cells, func(c api.Cell) api.Cell {
			c.Text, c.Data = strings.Clone(c.Text), bytes.Clone(c.Data)
			return c
		})
		return op
	})
}

func ownIndex(x api.Index) api.Index {
	x.Name, x.Cols = strings.Clone(x.Name), slices.Clone(x.Cols)
	return x
}
