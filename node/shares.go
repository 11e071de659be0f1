package node

import (
	"maps"

	"caisson/api"
	"caisson/coord"
	"caisson/raft"
	"caisson/replica"
	"caisson/session"
	"caisson/shard"
)

// share: a node's replica of a shard, and what else it knows of that one.
type share struct {
	*replica.Replica
	lead    int                 // the node at which its leader is looked for
	answers int                 // how many of its Answers have come
	asked   map[uint64]proposal // what was proposed here and isn't applied yet, by its index
	ages    map[api.Txn]int     // of those that its locks know: for how many ticks they did while it led
}

// proposal: what was proposed in a term, and the Answer that it is to have.
type proposal struct {
	term   uint64
	answer session.Packet
}

// settle takes what an event of a shard's replica brings about. (Where there was no room for it, that is nothing.)
func (x *Node) settle(i int, out replica.Out, e api.Errno) api.Errno {
	if e == api.ErrDead {
		return e
	}
	for _, m := range out.Msgs {
		x.send(session.Packet{Kind: session.Raft, To: m.To, Shard: i, Msg: m})
	}
	s := x.shares[i]
	for _, d := range out.Done {
		if p, there := s.asked[d.Index]; there && p.term == d.Term {
			p.answer.Res = d.Result
			x.send(p.answer)
		}
	}
	maps.DeleteFunc(s.asked, func(index uint64, _ proposal) bool { return index <= s.Applied() })
	return api.OK
}

// asked: a coordinator's command comes.
func (x *Node) asked(p session.Packet) api.Errno {
	s := x.shares[p.Shard]
	answer := session.Packet{Kind: session.Answer, To: p.From, Shard: p.Shard, Round: p.Round, Txn: p.Txn}
	out, e := s.Propose(p.Data)
	switch e {
	case api.OK:
		c, _ := shard.Decode(p.Data)
		answer.Cmd = c.Kind
		s.asked[out.Index] = proposal{term: s.Raft().Term, answer: answer}
	case api.ErrLead:
		answer.Code, answer.Lead = e, s.Raft().Lead()
		x.send(answer)
	}
	return x.settle(p.Shard, out, e)
}

// answered: a shard tells what a command has come to, or who leads it.
func (x *Node) answered(p session.Packet) {
	s := x.shares[p.Shard]
	s.answers++
	switch p.Code {
	case api.OK:
		x.result(p)
	case api.ErrLead:
		s.lead = p.Lead
		if p.Lead < 0 || p.Lead >= x.n {
			s.lead = x.behind(p.From)
		}
	}
}

// behind: the node behind another one.
func (x *Node) behind(id int) int { return (id%x.n + 1 + x.n) % x.n }

// findOrphans: of the shards that are led here each transaction that their locks know gets older; one that nobody seems to care for gets an orphan.
func (x *Node) findOrphans() {
	var all []int
	for i := range x.shares {
		all = append(all, i)
	}
	for _, s := range x.shares {
		for _, txn := range s.older() {
			if s.ages[txn] >= x.options.Patience && x.coords[txn] == nil {
				x.begin(txn, coord.Orphan(txn, x.splits, all...))
			}
		}
	}
}

// older: those that the locks know get a tick older, if this replica leads. Who did. (The age of one that they know no more goes.)
func (s *share) older() []api.Txn {
	known := s.Open()
	ages := map[api.Txn]int{}
	for _, txn := range known {
		ages[txn] = s.ages[txn]
	}
	s.ages = ages
	if s.Raft().Role() != raft.Leader {
		return nil
	}
	for _, txn := range known {
		s.ages[txn]++
	}
	return known
}
