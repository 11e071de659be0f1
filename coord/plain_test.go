package coord

import (
	"bytes"
	"maps"
	"slices"
	"testing"

	"caisson/api"
	"caisson/lock"
	"caisson/plan"
	"caisson/shard"
)

// plain is a coordinator by the words of the document.
type plain struct {
	x       api.Txn
	ops     []plan.Op
	splits  [][]byte
	orphan  bool
	shards  []int // that are sent Finish
	phase   string
	round   int
	waits   []int // shards that have answered Waiting, and not granted since
	out     []Send
	rounds  []locked
	ts      uint64
	reply   []byte
	decided bool
}

// locked is a round of Locks: what was needed, and what its shards have told.
type locked struct {
	need  []api.Range
	pairs map[string]string
}

// sent are the next round's.
func (p *plain) sent(phase string, list ...Send) []Send {
	p.phase, p.waits = phase, nil
	p.round++
	p.out = nil
	for i := range len(p.splits) + 1 {
		for _, s := range list {
			if s.Shard == i {
				s.Round = p.round
				p.out = append(p.out, s)
			}
		}
	}
	return p.out
}

func (p *plain) begin() []Send {
	if p.orphan {
		return p.givesUp()
	}
	return p.next()
}

func (p *plain) givesUp() []Send {
	busy := plan.Reply{Err: api.ErrBusy}
	return p.sent("deciding", Send{Cmd: shard.Cmd{Kind: shard.Decide, Txn: p.x, Reply: busy.Bytes()}, Shard: int(p.x.Session % uint64(len(p.splits)+1))})
}

// next runs the request with all that it knows.
func (p *plain) next() []Send {
	var known []plan.Known
	for _, l := range p.rounds {
		for _, r := range l.need {
			k := plan.Known{Range: r}
			for _, key := range slices.Sorted(maps.Keys(l.pairs)) {
				k.Pairs = append(k.Pairs, pair(key, l.pairs[key]))
			}
			known = append(known, k)
		}
	}
	o := plan.Run(p.ops, known...)
	if len(o.Need) == 0 {
		ts := p.ts
		if len(p.rounds) == 0 {
			ts = 1
		}
		return p.sent("deciding", Send{Cmd: shard.Cmd{Kind: shard.Decide, Txn: p.x, Commit: true, Ts: ts, Writes: o.Writes, Reply: o.Reply.Bytes()}, Shard: int(p.x.Session % uint64(len(p.splits)+1))})
	}
	p.rounds = append(p.rounds, locked{need: o.Need, pairs: map[string]string{}})
	var list []Send
	for i := range len(p.splits) + 1 {
		cmd := shard.Cmd{Kind: shard.Lock, Txn: p.x}
		for _, r := range o.Need {
			if i > 0 && bytes.Compare(p.splits[i-1], r.From) > 0 {
				r.From = p.splits[i-1]
			}
			if i < len(p.splits) && (len(r.To) == 0 || bytes.Compare(p.splits[i], r.To) < 0) {
				r.To = p.splits[i]
			}
			if len(r.To) == 0 || bytes.Compare(r.From, r.To) < 0 {
				cmd.Ranges = append(cmd.Ranges, r)
			}
		}
		if len(cmd.Ranges) > 0 {
			list = append(list, Send{Cmd: cmd, Shard: i})
			p.shards = append(p.shards, i)
		}
	}
	return p.sent("locking", list...)
}

func (p *plain) result(at, round int, r shard.Result) []Send {
	i := slices.IndexFunc(p.out, func(s Send) bool { return s.Shard == at })
	if round != p.round || i < 0 {
		return nil
	}
	switch {
	case p.phase == "locking" && (r.Err != 0 || r.Status == lock.Refused):
		return p.givesUp()
	case p.phase == "locking" && r.Status == lock.Waiting:
		p.waits = append(p.waits, at)
	case p.phase == "locking" && r.Status == lock.Granted:
		p.waits = slices.DeleteFunc(p.waits, func(i int) bool { return i == at })
		p.ts = max(p.ts, r.Ts)
		for _, x := range r.Pairs {
			p.rounds[len(p.rounds)-1].pairs[string(x.Key)] = string(x.Value)
		}
		if p.out = slices.Delete(slices.Clone(p.out), i, i+1); len(p.out) == 0 {
			return p.next()
		}
	case p.phase == "deciding" && r.Err == 0:
		p.reply, p.decided = r.Record.Reply, true
		var list []Send
		for i := range len(p.splits) + 1 {
			cmd := shard.Cmd{Kind: shard.Finish, Txn: p.x, Commit: r.Record.Commit, Ts: r.Record.Ts}
			for _, w := range r.Record.Writes {
				if routed(p.splits, string(w.Key)) == i {
					cmd.Writes = append(cmd.Writes, w)
				}
			}
			if slices.Contains(p.shards, i) || len(cmd.Writes) > 0 {
				list = append(list, Send{Cmd: cmd, Shard: i})
			}
		}
		return p.sent("finishing", list...)
	case p.phase == "finishing":
		p.out = slices.Delete(slices.Clone(p.out), i, i+1)
	}
	return nil
}

func (p *plain) giveUp() []Send {
	if p.phase != "locking" {
		return nil
	}
	return p.givesUp()
}

// both is a coordinator, and a plain one that is told the same.
type both struct {
	*testing.T
	c    *Coord
	p    *plain
	what string
}

// agree looks whether both send the same, and say the same of themselves.
func (b *both) agree(what string, got, want []Send) []Send {
	b.Helper()
	if told(got) != told(want) {
		b.Fatalf("%s: %s: sent is\n%s\nwant\n%s", b.what, what, told(got), told(want))
	}
	if got := b.c.Retry(); told(got) != told(b.p.out) {
		b.Fatalf("%s: %s: outstanding is\n%s\nwant\n%s", b.what, what, told(got), told(b.p.out))
	}
	reply, known := b.c.Reply()
	over := b.p.decided && len(b.p.out) == 0
	if b.c.Waits() != (len(b.p.waits) > 0) || b.c.Over() != over || known != b.p.decided || !bytes.Equal(reply, b.p.reply) {
		b.Fatalf("%s: %s: Waits %v, Over %v, Reply %q, %v; want %d waiting, %v, %q, %v", b.what, what, b.c.Waits(), b.c.Over(), reply, known, len(b.p.waits), over, b.p.reply, b.p.decided)
	}
	return got
}

func (b *both) begin() []Send { return b.agree("Begin", b.c.Begin(), b.p.begin()) }

func (b *both) result(at, round int, r shard.Result) []Send {
	return b.agree("Result", b.c.Result(at, round, r), b.p.result(at, round, r))
}

func (b *both) giveUp() []Send { return b.agree("GiveUp", b.c.GiveUp(), b.p.giveUp()) }
