package raft

import "slices"

// Tick: its clock goes on.
func (r *Node) Tick() []Msg {
	if r.role == Leader {
		return r.toOthers(r.send)
	}
	r.clock++
	if r.clock < r.limit+r.id {
		return nil
	}
	r.clock = 0
	if r.Term == mostTerm {
		return nil
	}
	return r.ask()
}

// Step: a message comes in.
func (r *Node) Step(m Msg) []Msg {
	if !r.counts(m) {
		return nil
	}
	switch m.Kind {
	case PreVote:
		return r.onPreVote(m)
	case PreVoted:
		return r.onPreVoted(m)
	case Vote:
		return r.onVote(m)
	case Voted:
		return r.onVoted(m)
	case Append:
		return r.obey(m, r.onAppend)
	case Appended:
		return r.onAppended(m)
	}
	return r.obey(m, r.onSnap)
}

// counts: is it a message that another node could have sent to this one?
func (r *Node) counts(m Msg) bool {
	return m.Kind >= PreVote && m.Kind <= Snap && m.To == r.id && m.From != r.id && m.From >= 0 && m.From < r.n && m.Term <= mostTerm && m.Index <= mostTerm && rising(0, m.Term, m.Entries)
}

// ask: would others vote for it? That changes nobody's term, so that one who was cut off doesn't turn the others from their leader.
func (r *Node) ask() []Msg {
	r.role, r.lead = Asking, nobody
	return r.poll(PreVote, r.Term+1, r.stand)
}

// stand: it is a candidate of the next term.
func (r *Node) stand() []Msg {
	r.role, r.clock = Candidate, 0
	r.Hard = Hard{Term: r.Term + 1, Vote: r.id}
	return r.poll(Vote, r.Term, r.begin)
}

// poll: all others are asked for a vote; alone it goes on at once.
func (r *Node) poll(kind int, term uint64, then func() []Msg) []Msg {
	if r.n == 1 {
		return then()
	}
	r.votes = 1 << r.id
	last := r.Last()
	lastTerm, _ := r.TermAt(last)
	return r.toOthers(func(to int) Msg {
		m := r.message(kind, to)
		m.Term, m.Index, m.LogTerm = term, last, lastTerm
		return m
	})
}

// vote: another one is for it; with a majority it goes on.
func (r *Node) vote(from int, then func() []Msg) []Msg {
	r.votes |= 1 << from
	if !r.majority(r.votes) {
		return nil
	}
	return then()
}

// begin: it leads. Its first entry is its own, since only behind one of its own term is anything agreed on.
func (r *Node) begin() []Msg {
	r.role, r.lead = Leader, r.id
	for to := range r.n {
		r.nexts[to], r.confirmed[to] = r.Last()+1, 0
	}
	return r.extend(nil)
}

// onPreVote: would it vote for who asks? It changes nothing, so it says so again and again.
func (r *Node) onPreVote(m Msg) []Msg {
	if m.Term <= r.Term || !r.upToDate(m) || r.lead != nobody && r.clock < r.limit {
		return r.reply(m, PreVoted, false, 0)
	}
	out := r.reply(m, PreVoted, true, 0)
	out[0].Term = m.Term
	return out
}

// onPreVoted: another one would vote for it, or it is behind.
func (r *Node) onPreVoted(m Msg) []Msg {
	if m.OK {
		if r.role == Asking && m.Term == r.Term+1 {
			return r.vote(m.From, r.stand)
		}
		return nil
	}
	if m.Term > r.Term {
		r.follow(m.Term, nobody)
	}
	return nil
}

// onVote: a candidate wants its vote, of which it has one in a term.
func (r *Node) onVote(m Msg) []Msg {
	if m.Term > r.Term {
		r.follow(m.Term, nobody)
	}
	if m.Term < r.Term || r.Vote != nobody && r.Vote != m.From || !r.upToDate(m) {
		return r.reply(m, Voted, false, 0)
	}
	r.Vote, r.clock = m.From, 0
	return r.reply(m, Voted, true, 0)
}

// onVoted: another one has voted.
func (r *Node) onVoted(m Msg) []Msg {
	if m.Term > r.Term {
		r.follow(m.Term, nobody)
		return nil
	}
	if m.OK && r.role == Candidate && m.Term == r.Term {
		return r.vote(m.From, r.begin)
	}
	return nil
}

// hears: may the one who sent m lead it?
func (r *Node) hears(m Msg) bool { return m.Term > r.Term || m.Term == r.Term && r.role != Leader }

// obey: if m comes from whoever leads, it follows, and goes on.
func (r *Node) obey(m Msg, then func(Msg) []Msg) []Msg {
	if m.Term < r.Term {
		return r.reply(m, Appended, false, 0)
	}
	if !r.hears(m) {
		return nil
	}
	r.follow(m.Term, m.From)
	r.clock = 0
	return then(m)
}

// onAppend: entries of whoever leads.
func (r *Node) onAppend(m Msg) []Msg {
	if m.Index >= r.Base && !r.matches(m.Index, m.LogTerm) {
		return r.reply(m, Appended, false, r.commit)
	}
	if !r.take(m) {
		return nil
	}
	last := m.Index + uint64(len(m.Entries))
	r.commit = max(r.commit, min(m.Commit, last))
	return r.reply(m, Appended, true, last)
}

// take: the entries behind m's index go into the log, from the first one on that isn't there; what else stands there goes. False: they can't.
func (r *Node) take(m Msg) bool {
	for place, e := range m.Entries {
		i := m.Index + 1 + uint64(place)
		if i <= r.Base || r.matches(i, e.Term) {
			continue
		}
		ahead, _ := r.TermAt(i - 1)
		if i <= r.commit || e.Term < ahead {
			return false
		}
		r.cut(i)
		r.put(own(m.Entries[place:])...)
		break
	}
	return true
}

// installs: does m, from one that it hears, take the place of its log?
func (r *Node) installs(m Msg) bool {
	return m.Index > r.commit && m.LogTerm <= m.Term && !r.matches(m.Index, m.LogTerm)
}

// onSnap: whoever leads has no entries any more that go on with the log.
func (r *Node) onSnap(m Msg) []Msg {
	if m.Index <= r.commit {
		return r.reply(m, Appended, true, r.commit)
	}
	if m.LogTerm > m.Term {
		return nil
	}
	if r.installs(m) {
		r.Base, r.BaseTerm = m.Index, m.LogTerm
		r.keep(nil)
	}
	r.commit = m.Index
	return r.reply(m, Appended, true, m.Index)
}

// onAppended: another one has taken what it was sent, or lacks something.
func (r *Node) onAppended(m Msg) []Msg {
	if m.Term > r.Term {
		r.follow(m.Term, nobody)
		return nil
	}
	if r.role != Leader || m.Term < r.Term {
		return nil
	}
	if !m.OK {
		r.nexts[m.From] = max(min(m.Index, r.Last()), r.confirmed[m.From]) + 1
		return []Msg{r.send(m.From)}
	}
	if m.Index <= r.Last() && m.Index > r.confirmed[m.From] {
		r.confirmed[m.From], r.nexts[m.From] = m.Index, m.Index+1
		r.agree()
	}
	return nil
}

// agree: what a majority has up to an entry of the leader's own term is agreed on. Entries of older terms alone could still be replaced by another leader's.
func (r *Node) agree() {
	r.confirmed[r.id] = r.Last()
	has := slices.Clone(r.confirmed[:r.n])
	slices.Sort(has)
	i := has[(r.n-1)/2]
	if i > r.commit && r.matches(i, r.Term) {
		r.commit = i
	}
}

// send: what a leader has for one of the others.
func (r *Node) send(to int) Msg {
	next := r.nexts[to]
	if next <= r.Base {
		m := r.message(Snap, to)
		m.Index, m.LogTerm = r.Base, r.BaseTerm
		return m
	}
	m := r.message(Append, to)
	m.Index, m.Commit = next-1, r.commit
	m.LogTerm, _ = r.TermAt(m.Index)
	rest := r.Entries[r.place(next):]
	m.Entries = own(rest[:min(len(rest), mostSent)])
	return m
}
