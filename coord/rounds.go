package coord

import (
	"bytes"
	"slices"

	"caisson/api"
	"caisson/codec"
	"caisson/lock"
	"caisson/plan"
	"caisson/shard"
)

// send: a round of a phase begins, with these orders.
func (c *Coord) send(phase int, orders map[int]order) []Send {
	c.phase, c.round, c.out = phase, c.round+1, orders
	return c.Retry()
}

// run: the request is run with what is known. What it needs is locked; when nothing is wanting, it decides.
func (c *Coord) run() []Send {
	outcome := plan.Run(c.ops, c.known...)
	if len(outcome.Need) == 0 {
		return c.decide(shard.Cmd{Commit: true, Ts: c.ts, Writes: outcome.Writes, Reply: outcome.Reply.Bytes()})
	}
	orders := map[int]order{}
	for _, p := range Cut(c.splits, outcome.Need...) {
		o := orders[p.Shard]
		o.Kind, o.Txn, o.Ranges = shard.Lock, c.txn, append(o.Ranges, p.Range)
		orders[p.Shard] = o
		c.shards = append(c.shards, p.Shard)
	}
	c.need = outcome.Need
	return c.send(locking, orders)
}

// locked: the result of a Lock.
func (c *Coord) locked(at int, o order, r shard.Result) []Send {
	switch {
	case r.Err != api.OK || r.Status == lock.Refused:
		return c.giveUp()
	case r.Status == lock.Waiting:
		o.waits = true
		c.out[at] = o
	case r.Status == lock.Granted:
		delete(c.out, at)
		c.ts = max(c.ts, r.Ts)
		for _, p := range r.Pairs {
			if slices.ContainsFunc(o.Ranges, func(x api.Range) bool { return has(x, p.Key) }) {
				c.found = append(c.found, ownPair(p))
			}
		}
		if len(c.out) == 0 {
			c.learn()
			return c.run()
		}
	}
	return nil
}

// learn: all that the round has asked for is known. A range is known as a whole, as Run asks for one that has all keys, however it was cut.
func (c *Coord) learn() {
	byKey := func(a, b api.Pair) int { return codec.Cmp(a.Key, b.Key) }
	slices.SortStableFunc(c.found, byKey)
	found := slices.CompactFunc(c.found, func(a, b api.Pair) bool { return byKey(a, b) == 0 }) // pieces may have keys in common
	for _, r := range c.need {
		known := plan.Known{Range: r}
		for _, p := range found {
			if has(r, p.Key) {
				known.Pairs = append(known.Pairs, p)
			}
		}
		c.known = append(c.known, known)
	}
	c.need, c.found = nil, nil
}

// has: has a range that is locked this key? (Each of them has an end, as what Run needs has one.)
func has(r api.Range, key []byte) bool {
	return codec.Cmp(r.From, key) <= 0 && codec.Cmp(key, r.To) < 0
}

// giveUp: it decides not to commit.
func (c *Coord) giveUp() []Send {
	return c.decide(shard.Cmd{Reply: plan.Reply{Err: api.ErrBusy}.Bytes()})
}

// decide: the home is asked to keep this decision, if there is none yet.
func (c *Coord) decide(cmd shard.Cmd) []Send {
	c.need, c.found, c.known = nil, nil, nil
	cmd.Kind, cmd.Txn = shard.Decide, c.txn
	return c.send(deciding, map[int]order{Home(c.splits, c.txn): {Cmd: cmd}})
}

// decided: the result of a Decide.
func (c *Coord) decided(r shard.Result) []Send {
	if r.Err != api.OK {
		return nil
	}
	c.reply = bytes.Clone(r.Record.Reply)
	orders := map[int]order{}
	tell := func(i int, writes ...api.Write) {
		cmd := shard.Cmd{Kind: shard.Finish, Txn: c.txn, Commit: r.Record.Commit, Ts: r.Record.Ts}
		cmd.Writes = append(orders[i].Writes, own(writes, ownWrite)...)
		orders[i] = order{Cmd: cmd}
	}
	for _, i := range c.shards {
		tell(i)
	}
	for _, w := range r.Record.Writes {
		tell(Route(c.splits, w.Key), w)
	}
	return c.send(finishing, orders)
}

// own: a list of copies that share no memory.
func own[T any](list []T, copied func(T) T) []T {
	var out []T
	for _, x := range list {
		out = append(out, copied(x))
	}
	return out
}

func ownPair(p api.Pair) api.Pair {
	return api.Pair{Key: bytes.Clone(p.Key), Value: bytes.Clone(p.Value)}
}

func ownRange(r api.Range) api.Range {
	r.From, r.To = bytes.Clone(r.From), bytes.Clone(r.To)
	return r
}

func ownWrite(w api.Write) api.Write {
	w.Key, w.Value = bytes.Clone(w.Key), bytes.Clone(w.Value)
	return w
}

func ownCmd(c shard.Cmd) shard.Cmd {
	c.Ranges, c.Writes, c.Reply = own(c.Ranges, ownRange), own(c.Writes, ownWrite), bytes.Clone(c.Reply)
	return c
}
