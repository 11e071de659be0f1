package node

import (
	"cmp"
	"maps"
	"slices"

	"caisson/api"
	"caisson/coord"
	"caisson/session"
	"caisson/shard"
)

// coordinator: what a node knows of one.
type coordinator struct {
	*coord.Coord
	txn    api.Txn
	kind   int  // of the commands of its round
	called bool // has a Call come since the last Reply?
	age    int  // in ticks
	waited int  // for how many ticks in a row it has waited
	again  map[int]retry
}

// retry: where something was sent again, and how many Answers of its shard had come then.
type retry struct {
	to, answers int
}

// Busy: the transactions that have a coordinator here.
func (x *Node) Busy() []api.Txn {
	return slices.SortedFunc(maps.Keys(x.coords), func(a, b api.Txn) int {
		return cmp.Or(cmp.Compare(a.Session, b.Session), cmp.Compare(a.Seq, b.Seq))
	})
}

// begin: a transaction has this coordinator from now on.
func (x *Node) begin(txn api.Txn, c *coord.Coord) {
	x.coords[txn] = &coordinator{Coord: c, txn: txn, again: map[int]retry{}}
	x.round(x.coords[txn], c.Begin())
}

// round: what a coordinator sends, if it sends anything: a round begins.
func (x *Node) round(c *coordinator, list []coord.Send) {
	for _, s := range list {
		c.kind = s.Kind
		x.ask(s, x.shares[s.Shard].lead)
	}
}

// ask: a command goes to a node.
func (x *Node) ask(s coord.Send, to int) {
	x.send(session.Packet{Kind: session.Ask, To: to, Shard: s.Shard, Round: s.Round, Txn: s.Txn, Data: shard.Encode(s.Cmd)})
}

// result: that of a command comes. One that has another kind than what its coordinator has sent, of that round, was sent by one ahead that has gone. (What is of that kind, too, was the same command then: all coordinators of a transaction lock the same, as nothing of that changes before it is decided, and are told the same decision.)
func (x *Node) result(p session.Packet) {
	c := x.coords[p.Txn]
	if c == nil || p.Cmd != c.kind {
		return
	}
	x.round(c, c.Result(p.Shard, p.Round, p.Res))
	x.tell(c)
}

// tell: once a coordinator has the reply whoever has called is sent it; once it is over it goes.
func (x *Node) tell(c *coordinator) {
	if reply, known := c.Reply(); known && c.called {
		c.called = false
		x.send(session.Packet{Kind: session.Reply, Txn: c.txn, Data: reply})
	}
	if c.Over() {
		delete(x.coords, c.txn)
	}
}

// urge: a coordinator gets a tick older. It gives up where it has waited for too long, and else sends again what is outstanding, when it is time.
func (x *Node) urge(c *coordinator) {
	c.age++
	c.waited++
	if !c.Waits() {
		c.waited = 0
	}
	switch {
	case c.waited/2 >= x.options.Patience:
		x.round(c, c.GiveUp())
	case c.age%x.options.Every == 0:
		for _, s := range c.Retry() {
			x.ask(s, x.next(c, s.Shard))
		}
	}
}

// next: the node to which something is sent again: that at which the shard's leader is looked for, or, if this one hasn't answered since the last time, the one behind it.
func (x *Node) next(c *coordinator, i int) int {
	s := x.shares[i]
	if last, there := c.again[i]; there && last.answers == s.answers {
		s.lead = x.behind(last.to)
	}
	c.again[i] = retry{to: s.lead, answers: s.answers}
	return s.lead
}
