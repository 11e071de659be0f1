package raft

import (
	"bytes"
	"fmt"
	"math"
	"math/rand/v2"
	"slices"
	"testing"

	"caisson/api"
)

// top is the greatest term and the greatest base that there are.
const top = uint64(1) << 62

// e is an entry.
func e(term uint64, data string) Entry { return Entry{Term: term, Data: []byte(data)} }

// terms are entries without data.
func terms(list ...uint64) []Entry {
	var out []Entry
	for _, t := range list {
		out = append(out, Entry{Term: t})
	}
	return out
}

// state is one with the base 0.
func state(term uint64, vote int, entries ...Entry) State {
	return State{Hard: Hard{Term: term, Vote: vote}, Entries: entries}
}

// fresh is the state of who has done nothing yet.
func fresh() State { return state(0, -1) }

func sameEntry(a, b Entry) bool { return a.Term == b.Term && bytes.Equal(a.Data, b.Data) }

func sameEntries(a, b []Entry) bool { return slices.EqualFunc(a, b, sameEntry) }

func sameState(a, b State) bool {
	return a.Hard == b.Hard && a.Base == b.Base && a.BaseTerm == b.BaseTerm && sameEntries(a.Entries, b.Entries)
}

func sameMsg(a, b Msg) bool {
	return a.Kind == b.Kind && a.From == b.From && a.To == b.To && a.Term == b.Term && a.Index == b.Index && a.LogTerm == b.LogTerm && a.Commit == b.Commit &&
		a.OK == b.OK && sameEntries(a.Entries, b.Entries) && bytes.Equal(a.Data, b.Data)
}

func sameMsgs(a, b []Msg) bool { return slices.EqualFunc(a, b, sameMsg) }

// plainForm: is a state in form for n nodes?
func plainForm(n int, s State) bool {
	if s.Vote < -1 || s.Vote > n-1 || s.Term > top || s.Base > top || s.BaseTerm > s.Term {
		return false
	}
	for i, x := range s.Entries {
		if x.Term < s.BaseTerm || x.Term > s.Term || i > 0 && x.Term < s.Entries[i-1].Term {
			return false
		}
	}
	return true
}

// plain is a node by the words of the document. Its log is a map from the indexes.
type plain struct {
	id, n, limit   int
	term           uint64
	vote           int
	base, baseTerm uint64
	log            map[uint64]Entry
	last           uint64
	role, lead     int
	clock          int
	commit         uint64
	votes          map[int]bool
	next, has      map[int]uint64
	installed      bool // by the last step
	why            string
}

func newPlain(id, n, limit int, s State) *plain {
	p := &plain{id: id, n: n, limit: limit, term: s.Term, vote: s.Vote, base: s.Base, baseTerm: s.BaseTerm, log: map[uint64]Entry{}, last: s.Base, lead: -1, commit: s.Base}
	for _, x := range s.Entries {
		p.last++
		p.log[p.last] = e(x.Term, string(x.Data))
	}
	return p
}

func (p *plain) termAt(i uint64) (uint64, bool) {
	if i == p.base {
		return p.baseTerm, true
	}
	x, there := p.log[i]
	return x.Term, there
}

func (p *plain) from(i uint64) []Entry {
	var out []Entry
	for k := max(i, p.base+1); k <= p.last; k++ {
		out = append(out, e(p.log[k].Term, string(p.log[k].Data)))
	}
	return out
}

func (p *plain) state() State {
	return State{Hard: Hard{Term: p.term, Vote: p.vote}, Base: p.base, BaseTerm: p.baseTerm, Entries: p.from(0)}
}

// others calls a function for all others, by rising numbers.
func (p *plain) others(f func(to int) Msg) []Msg {
	var out []Msg
	for to := 0; to < p.n; to++ {
		if to != p.id {
			out = append(out, f(to))
		}
	}
	return out
}

func (p *plain) follow(term uint64, lead int) {
	if term > p.term {
		p.term, p.vote = term, -1
	}
	p.role, p.lead = Follower, lead
}

func (p *plain) upToDate(m Msg) bool {
	t, _ := p.termAt(p.last)
	return m.LogTerm > t || m.LogTerm == t && m.Index >= p.last
}

func (p *plain) question(kind int, term uint64) []Msg {
	t, _ := p.termAt(p.last)
	return p.others(func(to int) Msg {
		return Msg{Kind: kind, From: p.id, To: to, Term: term, Index: p.last, LogTerm: t}
	})
}

func (p *plain) send(to int) Msg {
	m := Msg{From: p.id, To: to, Term: p.term}
	if p.next[to] <= p.base {
		m.Kind, m.Index, m.LogTerm = Snap, p.base, p.baseTerm
		return m
	}
	m.Kind, m.Index, m.Commit = Append, p.next[to]-1, p.commit
	m.LogTerm, _ = p.termAt(m.Index)
	for i := p.next[to]; i <= p.last && len(m.Entries) < 16; i++ {
		m.Entries = append(m.Entries, p.log[i])
	}
	return m
}

func (p *plain) tick() []Msg {
	if p.role == Leader {
		return p.others(p.send)
	}
	p.clock++
	if p.clock != p.limit+p.id {
		return nil
	}
	p.clock = 0
	if p.term == top {
		return nil
	}
	p.role, p.lead, p.votes = Asking, -1, map[int]bool{p.id: true}
	if p.n == 1 {
		return p.stand()
	}
	return p.question(PreVote, p.term+1)
}

func (p *plain) stand() []Msg {
	p.term++
	p.vote, p.role, p.clock, p.votes = p.id, Candidate, 0, map[int]bool{p.id: true}
	if p.n == 1 {
		return p.begin()
	}
	return p.question(Vote, p.term)
}

func (p *plain) begin() []Msg {
	p.role, p.lead, p.next, p.has = Leader, p.id, map[int]uint64{}, map[int]uint64{}
	for to := 0; to < p.n; to++ {
		p.next[to] = p.last + 1
	}
	_, out := p.put(nil)
	return out
}

// put puts an entry at the end of a leader's log.
func (p *plain) put(data []byte) (uint64, []Msg) {
	p.last++
	p.log[p.last] = e(p.term, string(data))
	p.agree()
	return p.last, p.others(p.send)
}

// agree: the greatest index with its own term that a majority has.
func (p *plain) agree() {
	for i := p.last; i > p.commit; i-- {
		count := 1
		for to := 0; to < p.n; to++ {
			if to != p.id && p.has[to] >= i {
				count++
			}
		}
		if 2*count > p.n && p.log[i].Term == p.term {
			p.commit = i
			return
		}
	}
}

// nothing: is it a message that is nothing?
func (p *plain) nothing(m Msg) bool {
	if m.From < 0 || m.From >= p.n || m.To < 0 || m.To >= p.n || m.To != p.id || m.From == p.id || m.Kind < 1 || m.Kind > 7 || m.Term > top || m.Index > top {
		return true
	}
	for i, x := range m.Entries {
		if x.Term > m.Term || i > 0 && x.Term < m.Entries[i-1].Term {
			return true
		}
	}
	return false
}

func (p *plain) step(m Msg) []Msg {
	p.installed, p.why = false, ""
	if p.nothing(m) {
		return nil
	}
	answer := Msg{Kind: m.Kind + 1, From: p.id, To: m.From, Term: p.term}
	switch m.Kind {
	case PreVote:
		if m.Term > p.term && p.upToDate(m) && (p.lead == -1 || p.clock >= p.limit) {
			answer.OK, answer.Term = true, m.Term
		}
		return []Msg{answer}
	case PreVoted:
		if !m.OK && m.Term > p.term {
			p.follow(m.Term, -1)
		}
		if m.OK && p.role == Asking && m.Term == p.term+1 {
			p.votes[m.From] = true
			if 2*len(p.votes) > p.n {
				return p.stand()
			}
		}
		return nil
	case Vote:
		if m.Term > p.term {
			p.follow(m.Term, -1)
		}
		answer.Term = p.term
		if m.Term == p.term && (p.vote == -1 || p.vote == m.From) && p.upToDate(m) {
			p.vote, p.clock, answer.OK = m.From, 0, true
		}
		return []Msg{answer}
	case Voted:
		if m.Term > p.term {
			p.follow(m.Term, -1)
		} else if m.OK && p.role == Candidate && m.Term == p.term {
			p.votes[m.From] = true
			if 2*len(p.votes) > p.n {
				return p.begin()
			}
		}
		return nil
	case Appended:
		return p.onAppended(m)
	}
	answer.Kind = Appended
	if m.Term < p.term {
		return []Msg{answer}
	}
	if p.role == Leader && m.Term == p.term {
		return nil
	}
	p.follow(m.Term, m.From)
	p.clock, answer.Term = 0, p.term
	if m.Kind == Snap {
		return p.onSnap(m, answer)
	}
	return p.onAppend(m, answer)
}

func (p *plain) onAppended(m Msg) []Msg {
	if m.Term > p.term {
		p.follow(m.Term, -1)
		return nil
	}
	if p.role != Leader || m.Term != p.term {
		return nil
	}
	if m.OK {
		if m.Index <= p.last && m.Index > p.has[m.From] {
			p.has[m.From], p.next[m.From] = m.Index, m.Index+1
		}
		p.agree()
		return nil
	}
	p.next[m.From] = m.Index + 1
	if p.next[m.From] < p.has[m.From]+1 {
		p.next[m.From] = p.has[m.From] + 1
	}
	if p.next[m.From] > p.last+1 { // there is nothing beyond
		p.next[m.From] = p.last + 1
	}
	return []Msg{p.send(m.From)}
}

func (p *plain) onAppend(m, answer Msg) []Msg {
	if m.Index >= p.base {
		if t, there := p.termAt(m.Index); !there || t != m.LogTerm {
			answer.Index = p.commit
			p.why = "doesn't fit"
			return []Msg{answer}
		}
	}
	log, last := map[uint64]Entry{}, p.last
	for i, x := range p.log {
		log[i] = x
	}
	for k, x := range m.Entries {
		i := m.Index + 1 + uint64(k)
		if i <= p.base {
			p.why = "passed over"
			continue
		}
		if i <= last {
			if log[i].Term == x.Term {
				continue
			}
			if i <= p.commit {
				p.why = "below the commit"
				return nil
			}
			for j := i; j <= last; j++ {
				delete(log, j)
			}
			p.why = "replaced"
		}
		log[i], last = e(x.Term, string(x.Data)), i
	}
	s := State{Hard: Hard{Term: p.term, Vote: p.vote}, Base: p.base, BaseTerm: p.baseTerm}
	for i := p.base + 1; i <= last; i++ {
		s.Entries = append(s.Entries, log[i])
	}
	if !plainForm(p.n, s) {
		p.why = "not in form"
		return nil
	}
	p.log, p.last = log, last
	answer.OK, answer.Index = true, m.Index+uint64(len(m.Entries))
	if c := min(m.Commit, answer.Index); c > p.commit {
		p.commit = c
	}
	return []Msg{answer}
}

func (p *plain) onSnap(m, answer Msg) []Msg {
	answer.OK, answer.Index = true, m.Index
	if m.Index <= p.commit {
		answer.Index = p.commit
		return []Msg{answer}
	}
	if m.LogTerm > m.Term {
		return nil
	}
	if t, there := p.termAt(m.Index); !there || t != m.LogTerm {
		p.log, p.base, p.last, p.baseTerm, p.installed = map[uint64]Entry{}, m.Index, m.Index, m.LogTerm, true
	}
	p.commit = m.Index
	return []Msg{answer}
}

func (p *plain) compact(i uint64) api.Errno {
	if i < p.base || i > p.commit || i > top {
		return api.ErrArg
	}
	p.baseTerm, _ = p.termAt(i)
	for ; p.base < i; p.base++ {
		delete(p.log, p.base+1)
	}
	return api.OK
}

// agrees looks whether a node is as the document says, and in form.
func agrees(t *testing.T, what string, r *Node, p *plain) {
	t.Helper()
	if !sameState(r.State, p.state()) || r.Role() != p.role || r.Lead() != p.lead || r.Commit() != p.commit || r.Last() != p.last {
		t.Fatalf("behind %s it is %+v, role %d, lead %d, commit %d, last %d; want %+v, %d, %d, %d, %d", what, r.State, r.Role(), r.Lead(), r.Commit(), r.Last(), p.state(), p.role, p.lead, p.commit, p.last)
	}
	if !plainForm(p.n, r.State) { // P17.2
		t.Fatalf("behind %s the state %+v isn't in form", what, r.State)
	}
	for _, i := range []uint64{0, p.base - 1, p.base, p.base + 1, p.commit, p.last - 1, p.last, p.last + 1, math.MaxUint64} {
		want, there := p.termAt(i)
		if got, ok := r.TermAt(i); got != want || ok != there {
			t.Fatalf("behind %s: TermAt(%d) = %d, %v; want %d, %v", what, i, got, ok, want, there)
		}
		entries := []Entry(nil)
		if i <= p.last {
			entries = p.from(i)
		}
		if got := r.From(i); !sameEntries(got, entries) {
			t.Fatalf("behind %s: From(%d) = %v; want %v", what, i, got, entries)
		}
	}
}

// pair is a node, and the same one by the document.
type pair struct {
	*testing.T
	r *Node
	p *plain
}

// begins is a node with a state that must be taken.
func begins(t *testing.T, id, n, limit int, s State) *pair {
	t.Helper()
	r, err := New(id, n, limit, s)
	if err != api.OK {
		t.Fatalf("New(%d, %d, %d, %+v) = %v", id, n, limit, s, err)
	}
	x := &pair{T: t, r: r, p: newPlain(id, n, limit, s)}
	agrees(t, "New", x.r, x.p)
	return x
}

func (x *pair) tick() []Msg {
	x.Helper()
	got, want := x.r.Tick(), x.p.tick()
	if !sameMsgs(got, want) {
		x.Fatalf("Tick = %+v; want %+v", got, want)
	}
	agrees(x.T, "Tick", x.r, x.p)
	return got
}

// ticks ticks a few times, of which the last alone may send anything.
func (x *pair) ticks(n int) []Msg {
	x.Helper()
	for ; n > 1; n-- {
		if got := x.tick(); len(got) > 0 {
			x.Fatalf("early: %+v", got)
		}
	}
	return x.tick()
}

func (x *pair) step(m Msg) []Msg {
	x.Helper()
	before := x.r.State
	wants := x.r.Wants(m)
	agrees(x.T, "Wants", x.r, x.p)
	got, want := x.r.Step(m), x.p.step(m)
	if !sameMsgs(got, want) {
		x.Fatalf("Step(%+v) = %+v; want %+v", m, got, want)
	}
	agrees(x.T, fmt.Sprintf("Step(%+v) of %+v", m, before), x.r, x.p)
	if wants != x.p.installed {
		x.Fatalf("Wants(%+v) = %v; want %v", m, wants, x.p.installed)
	}
	return got
}

// steps steps with a message from another one, to this one.
func (x *pair) steps(from int, m Msg) []Msg {
	x.Helper()
	m.From, m.To = from, x.p.id
	return x.step(m)
}

// says steps with a message that must be answered by just this one.
func (x *pair) says(from int, m, want Msg) {
	x.Helper()
	want.From, want.To = x.p.id, from
	if got := x.steps(from, m); len(got) != 1 || !sameMsg(got[0], want) {
		x.Errorf("Step(%+v) = %+v; want %+v", m, got, want)
	}
}

// quiet steps with a message that must not be answered.
func (x *pair) quiet(from int, m Msg) {
	x.Helper()
	if got := x.steps(from, m); len(got) > 0 {
		x.Errorf("Step(%+v) = %+v; want nothing", m, got)
	}
}

func (x *pair) propose(data string) (uint64, []Msg) {
	x.Helper()
	var want uint64
	var msgs []Msg
	err := api.ErrLead
	if x.p.role == Leader {
		err = api.OK
		want, msgs = x.p.put([]byte(data))
	}
	i, got, ge := x.r.Propose([]byte(data))
	if i != want || !sameMsgs(got, msgs) || ge != err {
		x.Fatalf("Propose = %d, %+v, %v; want %d, %+v, %v", i, got, ge, want, msgs, err)
	}
	agrees(x.T, "Propose", x.r, x.p)
	return i, got
}

func (x *pair) compact(i uint64) api.Errno {
	x.Helper()
	want := x.p.compact(i)
	if got := x.r.Compact(i); got != want {
		x.Fatalf("Compact(%d) = %v; want %v", i, got, want)
	}
	agrees(x.T, "Compact", x.r, x.p)
	return want
}

// is looks what it is.
func (x *pair) is(role, lead int, term uint64, vote int, commit uint64) {
	x.Helper()
	if x.r.Role() != role || x.r.Lead() != lead || x.r.Term != term || x.r.Vote != vote || x.r.Commit() != commit {
		x.Errorf("it is %d, led by %d, term %d, vote %d, commit %d; want %d, %d, %d, %d, %d", x.r.Role(), x.r.Lead(), x.r.Term, x.r.Vote, x.r.Commit(), role, lead, term, vote, commit)
	}
}

// has looks at its log.
func (x *pair) has(base, baseTerm uint64, entries ...Entry) {
	x.Helper()
	if x.r.Base != base || x.r.BaseTerm != baseTerm || !sameEntries(x.r.Entries, entries) {
		x.Errorf("its log is %d, %d, %v; want %d, %d, %v", x.r.Base, x.r.BaseTerm, x.r.Entries, base, baseTerm, entries)
	}
}

// leads is a node of three that leads in the term behind its own one.
func leads(t *testing.T, s State) *pair {
	t.Helper()
	x := begins(t, 0, 3, 2, s)
	x.ticks(2)
	x.steps(1, Msg{Kind: PreVoted, Term: s.Term + 1, OK: true})
	x.steps(2, Msg{Kind: Voted, Term: s.Term + 1, OK: true})
	x.is(Leader, 0, s.Term+1, 0, s.Base)
	return x
}

func TestExamples(t *testing.T) { // P17.1, P17.2
	x := begins(t, 0, 1, 3, fresh())
	x.tick()
	x.tick()
	x.is(Follower, -1, 0, -1, 0)
	if got := x.tick(); len(got) > 0 {
		t.Errorf("alone it sends %v", got)
	}
	x.is(Leader, 0, 1, 0, 1)
	x.has(0, 0, terms(1)...)
	if i, got := x.propose("x"); i != 2 || len(got) > 0 {
		t.Errorf("Propose = %d, %v", i, got)
	}
	x.is(Leader, 0, 1, 0, 2)
	x.has(0, 0, e(1, ""), e(1, "x"))

	x = begins(t, 0, 3, 2, fresh())
	ask := Msg{Kind: PreVote, To: 1, Term: 1}
	if got := x.ticks(2); !sameMsgs(got, []Msg{ask, {Kind: PreVote, To: 2, Term: 1}}) {
		t.Errorf("it asks %v", got)
	}
	x.is(Asking, -1, 0, -1, 0)
	if got := x.steps(1, Msg{Kind: PreVoted, Term: 1, OK: true}); !sameMsgs(got, []Msg{{Kind: Vote, To: 1, Term: 1}, {Kind: Vote, To: 2, Term: 1}}) {
		t.Errorf("it stands by %v", got)
	}
	x.is(Candidate, -1, 1, 0, 0)
	if got := x.steps(2, Msg{Kind: Voted, Term: 1, OK: true}); !sameMsgs(got, []Msg{{Kind: Append, To: 1, Term: 1, Entries: terms(1)}, {Kind: Append, To: 2, Term: 1, Entries: terms(1)}}) {
		t.Errorf("it leads by %v", got)
	}
	x.is(Leader, 0, 1, 0, 0)

	x = begins(t, 1, 3, 2, fresh())
	x.says(0, Msg{Kind: Append, Term: 1, Index: 5}, Msg{Kind: Appended, Term: 1})
	x.is(Follower, 0, 1, -1, 0)
}

func TestNew(t *testing.T) { // P17.1
	form := state(3, 2, terms(1, 1, 3)...)
	for _, c := range []struct {
		id, n, limit int
		s            State
		want         api.Errno
	}{
		{0, 1, 1, fresh(), api.OK}, {4, 5, 1000, state(0, 4), api.OK}, {0, 3, 1, form, api.OK},
		{0, 0, 1, fresh(), api.ErrArg}, {0, 6, 1, fresh(), api.ErrArg}, {0, -1, 1, fresh(), api.ErrArg}, {0, math.MinInt, 1, fresh(), api.ErrArg},
		{-1, 3, 1, fresh(), api.ErrArg}, {3, 3, 1, fresh(), api.ErrArg}, {math.MaxInt, 3, 1, fresh(), api.ErrArg}, {5, 5, 1, fresh(), api.ErrArg},
		{0, 3, 0, fresh(), api.ErrArg}, {0, 3, 1001, fresh(), api.ErrArg}, {0, 3, -5, fresh(), api.ErrArg}, {0, 3, math.MaxInt, fresh(), api.ErrArg},
		{0, 3, 1, state(0, -2), api.ErrForm}, {0, 3, 1, state(0, 3), api.ErrForm}, {0, 3, 1, state(0, 2), api.OK}, {0, 2, 1, form, api.ErrForm}, {0, 3, 1, state(0, math.MaxInt), api.ErrForm},
		{0, 3, 1, state(top, -1), api.OK}, {0, 3, 1, state(top+1, -1), api.ErrForm}, {0, 3, 1, state(math.MaxUint64, -1), api.ErrForm},
		{0, 3, 1, State{Hard: Hard{Vote: -1}, Base: top}, api.OK}, {0, 3, 1, State{Hard: Hard{Vote: -1}, Base: top, Entries: terms(0, 0)}, api.OK}, {0, 3, 1, State{Hard: Hard{Vote: -1}, Base: top + 1}, api.ErrForm},
		{0, 3, 1, State{Hard: Hard{Term: 5, Vote: -1}, Base: 9, BaseTerm: 5}, api.OK}, {0, 3, 1, State{Hard: Hard{Term: 5, Vote: -1}, Base: 9, BaseTerm: 6}, api.ErrForm},
		{0, 3, 1, State{Hard: Hard{Term: 5, Vote: -1}, Base: 9, BaseTerm: 4, Entries: terms(4, 5)}, api.OK}, {0, 3, 1, State{Hard: Hard{Term: 5, Vote: -1}, Base: 9, BaseTerm: 4, Entries: terms(3, 5)}, api.ErrForm},
		{0, 3, 1, state(5, -1, terms(5, 4)...), api.ErrForm}, {0, 3, 1, state(5, -1, terms(5, 6)...), api.ErrForm}, {0, 3, 1, state(5, -1, terms(6)...), api.ErrForm}, {0, 3, 1, state(5, -1, terms(1, 2, 2, 1)...), api.ErrForm},
		{0, 0, 1, state(5, -1, terms(6)...), api.ErrArg}, {3, 3, 1, state(5, -7), api.ErrArg}, {0, 3, 0, state(top+1, -1), api.ErrArg}, // the lesser of two
	} {
		r, err := New(c.id, c.n, c.limit, c.s)
		if err != c.want || (r != nil) != (c.want == api.OK) {
			t.Errorf("New(%d, %d, %d, %+v) = %v, %v; want %v", c.id, c.n, c.limit, c.s, r, err, c.want)
			continue
		}
		if err == api.OK {
			agrees(t, "New", r, newPlain(c.id, c.n, c.limit, c.s))
			if r.Role() != Follower || r.Lead() != -1 || r.Commit() != c.s.Base || !sameState(r.State, c.s) {
				t.Errorf("New: %+v, %d, %d, %d", r.State, r.Role(), r.Lead(), r.Commit())
			}
		}
	}
}

func TestAsked(t *testing.T) { // P17.1
	x := begins(t, 1, 3, 2, State{Hard: Hard{Term: 7, Vote: 0}, Base: 10, BaseTerm: 2, Entries: []Entry{e(3, "a"), e(3, "b"), e(7, "c")}})
	if x.r.Last() != 13 || x.r.Commit() != 10 {
		t.Errorf("Last %d, Commit %d", x.r.Last(), x.r.Commit())
	}
	for _, c := range []struct {
		i, term uint64
		there   bool
		from    int // how many entries
	}{{0, 0, false, 3}, {9, 0, false, 3}, {10, 2, true, 3}, {11, 3, true, 3}, {12, 3, true, 2}, {13, 7, true, 1}, {14, 0, false, 0}, {math.MaxUint64, 0, false, 0}} {
		if term, there := x.r.TermAt(c.i); term != c.term || there != c.there {
			t.Errorf("TermAt(%d) = %d, %v", c.i, term, there)
		}
		if got := x.r.From(c.i); !sameEntries(got, x.r.Entries[3-c.from:]) {
			t.Errorf("From(%d) = %v", c.i, got)
		}
	}
}

func TestClock(t *testing.T) { // P17.2: each asks at a limit of its own
	for n := 2; n <= api.MaxNodes; n++ {
		for id := range n {
			for _, limit := range []int{1, 2, 7} {
				x := begins(t, id, n, limit, state(4, -1, terms(2, 3)...))
				for range 3 { // it asks again and again
					got := x.ticks(limit + id)
					if len(got) != n-1 {
						t.Fatalf("%d of %d, limit %d: %v", id, n, limit, got)
					}
					for _, m := range got {
						if m.Kind != PreVote || m.Term != 5 || m.Index != 2 || m.LogTerm != 3 || m.Commit != 0 || m.OK || len(m.Entries) > 0 {
							t.Errorf("it asks %+v", m)
						}
					}
					x.is(Asking, -1, 4, -1, 0)
				}
			}
		}
	}
	x := begins(t, 1, 3, 3, fresh())
	x.ticks(3)
	x.steps(0, Msg{Kind: Append, Term: 1}) // it hears of a leader: the clock is 0
	x.ticks(3)
	x.steps(0, Msg{Kind: Snap, Term: 1})
	x.ticks(3)
	x.steps(2, Msg{Kind: Vote, Term: 2}) // it votes
	x.is(Follower, -1, 2, 2, 0)
	x.ticks(3)
	x.steps(0, Msg{Kind: Vote, Term: 2}) // it doesn't
	if got := x.tick(); len(got) != 2 {
		t.Errorf("it doesn't ask: %v", got)
	}
	x = begins(t, 0, 3, 1, state(top, -1))
	x.ticks(5) // there is no later term
	x.is(Follower, -1, top, -1, 0)
	x = begins(t, 0, 1, 1, state(top, -1))
	x.ticks(5)
	x.is(Follower, -1, top, -1, 0)
	x = begins(t, 0, 1, 1, state(top-1, -1))
	x.tick()
	x.is(Leader, 0, top, 0, 1)
}

func TestNothing(t *testing.T) { // P17.2: what is nothing
	good := []Msg{
		{Kind: PreVote, Term: 9, Index: 9, LogTerm: 9}, {Kind: PreVoted, Term: 9}, {Kind: Vote, Term: 9, Index: 9, LogTerm: 9}, {Kind: Voted, Term: 9},
		{Kind: Append, Term: 9, Entries: terms(4, 5)}, {Kind: Appended, Term: 9}, {Kind: Snap, Term: 9, Index: 5, LogTerm: 9},
	}
	for _, g := range good {
		g.From, g.To = 0, 1
		for _, spoil := range []func(m *Msg){
			func(m *Msg) { m.From = -1 }, func(m *Msg) { m.From = 3 }, func(m *Msg) { m.From = 1 }, func(m *Msg) { m.From = math.MaxInt },
			func(m *Msg) { m.To = 0 }, func(m *Msg) { m.To = 2 }, func(m *Msg) { m.To = -1 }, func(m *Msg) { m.To = math.MinInt },
			func(m *Msg) { m.Kind = 0 }, func(m *Msg) { m.Kind = 8 }, func(m *Msg) { m.Kind = -1 }, func(m *Msg) { m.Kind = math.MaxInt },
			func(m *Msg) { m.Term = top + 1 }, func(m *Msg) { m.Term = math.MaxUint64 }, func(m *Msg) { m.Index = top + 1 }, func(m *Msg) { m.Index = math.MaxUint64 },
			func(m *Msg) { m.Entries = terms(2, 1) }, func(m *Msg) { m.Entries = terms(10) }, func(m *Msg) { m.Entries = terms(1, 10) }, func(m *Msg) { m.Entries = terms(0, 3, 3, 2, 9) },
		} {
			x := begins(t, 1, 3, 2, state(3, -1, terms(1, 2)...))
			m := g
			spoil(&m)
			if got := x.step(m); len(got) > 0 {
				t.Errorf("Step(%+v) = %v", m, got)
			}
			x.is(Follower, -1, 3, -1, 0)
		}
		x := begins(t, 1, 3, 2, state(3, -1, terms(1, 2)...))
		x.step(g)
		if g.Kind != PreVote {
			if x.r.Term != 9 {
				t.Errorf("the good one does nothing: %+v", g)
			}
		}
		for _, edge := range []func(m *Msg){func(m *Msg) { m.Term = top }, func(m *Msg) { m.Index = top }} {
			m := g
			edge(&m)
			begins(t, 1, 3, 2, state(3, -1, terms(1, 2)...)).step(m)
		}
	}
	x := begins(t, 0, 1, 1, fresh())
	for kind := 0; kind < 9; kind++ {
		x.quiet(0, Msg{Kind: kind, Term: 5})
		x.quiet(1, Msg{Kind: kind, Term: 5})
	}
	x.is(Follower, -1, 0, -1, 0)
}

func TestPreVote(t *testing.T) { // P17.2
	log := state(5, 2, terms(1, 3, 3)...)
	for _, c := range []struct {
		term, index, logTerm uint64
		ok                   bool
	}{
		{6, 3, 3, true}, {6, 4, 3, true}, {6, 2, 3, false}, {6, 0, 4, true}, {6, 9, 2, false}, {5, 3, 3, false}, {4, 3, 3, false}, {0, 9, 9, false}, {top, 3, 3, true}, {6, 3, math.MaxUint64, true},
	} {
		x := begins(t, 1, 3, 2, log)
		want := Msg{Kind: PreVoted, Term: 5}
		if c.ok {
			want.Term, want.OK = c.term, true
		}
		for _, from := range []int{0, 2, 0} {
			x.says(from, Msg{Kind: PreVote, Term: c.term, Index: c.index, LogTerm: c.logTerm}, want)
		}
		x.is(Follower, -1, 5, 2, 0) // it changes nothing
	}
	x := begins(t, 1, 3, 2, fresh())
	x.steps(0, Msg{Kind: Append, Term: 1})
	ask, no, yes := Msg{Kind: PreVote, Term: 2}, Msg{Kind: PreVoted, Term: 1}, Msg{Kind: PreVoted, Term: 2, OK: true}
	x.says(2, ask, no) // it knows a leader
	x.tick()
	x.says(2, ask, no)
	x.tick()
	x.says(2, ask, yes) // it hasn't heard of it for long
	x.steps(0, Msg{Kind: Append, Term: 1})
	x.says(2, ask, no)
	x.steps(2, Msg{Kind: Vote, Term: 2})
	ask.Term, yes.Term = 3, 3
	x.says(0, ask, yes) // of the new term it knows none
	x = leads(t, fresh())
	x.says(1, Msg{Kind: PreVote, Term: 9, Index: 9, LogTerm: 9}, Msg{Kind: PreVoted, Term: 1}) // it knows that it leads
	x = begins(t, 0, 1, 1, fresh())
	x.tick()
	x.is(Leader, 0, 1, 0, 1)
}

func TestPreVoted(t *testing.T) { // P17.2
	x := begins(t, 0, 5, 2, state(3, 1))
	x.quiet(1, Msg{Kind: PreVoted, Term: 4, OK: true}) // it hasn't asked
	x.is(Follower, -1, 3, 1, 0)
	x.ticks(2)
	x.quiet(1, Msg{Kind: PreVoted, Term: 3, OK: true}) // of another term
	x.quiet(2, Msg{Kind: PreVoted, Term: 5, OK: true})
	x.quiet(3, Msg{Kind: PreVoted, Term: 3})
	x.quiet(4, Msg{Kind: PreVoted, Term: 2})
	x.quiet(4, Msg{Kind: Voted, Term: 3, OK: true}) // of another kind
	x.is(Asking, -1, 3, 1, 0)
	x.quiet(1, Msg{Kind: PreVoted, Term: 4, OK: true})
	x.quiet(1, Msg{Kind: PreVoted, Term: 4, OK: true}) // the same one again
	x.is(Asking, -1, 3, 1, 0)
	if got := x.steps(4, Msg{Kind: PreVoted, Term: 4, OK: true}); len(got) != 4 || got[3].To != 4 || got[3].Kind != Vote || got[3].Term != 4 {
		t.Errorf("it stands by %v", got)
	}
	x.is(Candidate, -1, 4, 0, 0)
	x.quiet(2, Msg{Kind: PreVoted, Term: 4, OK: true})
	x.quiet(2, Msg{Kind: PreVoted, Term: 5, OK: true})
	x.quiet(2, Msg{Kind: PreVoted, Term: 4})
	x.is(Candidate, -1, 4, 0, 0)
	x.quiet(2, Msg{Kind: PreVoted, Term: 6})
	x.is(Follower, -1, 6, -1, 0)

	x = begins(t, 0, 5, 2, fresh())
	x.ticks(2)
	x.quiet(1, Msg{Kind: PreVoted, Term: 1, OK: true})
	x.ticks(2)                                         // it asks anew
	x.quiet(2, Msg{Kind: PreVoted, Term: 1, OK: true}) // the first vote doesn't count any more
	x.is(Asking, -1, 0, -1, 0)
	x.steps(1, Msg{Kind: PreVoted, Term: 1, OK: true})
	x.is(Candidate, -1, 1, 0, 0)
	x.ticks(2) // and anew, of the next term
	x.is(Asking, -1, 1, 0, 0)
	x.quiet(1, Msg{Kind: PreVoted, Term: 2, OK: true})
	x.quiet(3, Msg{Kind: Voted, Term: 1, OK: true})
	x.is(Asking, -1, 1, 0, 0)
	for n, enough := range map[int]int{2: 1, 3: 1, 4: 2, 5: 2} {
		x := begins(t, 0, n, 1, fresh())
		x.tick()
		for from := 1; from <= enough; from++ {
			x.is(Asking, -1, 0, -1, 0)
			x.steps(from, Msg{Kind: PreVoted, Term: 1, OK: true})
		}
		for from := 1; from <= enough; from++ {
			x.is(Candidate, -1, 1, 0, 0)
			x.steps(from, Msg{Kind: Voted, Term: 1, OK: true})
		}
		x.is(Leader, 0, 1, 0, 0)
	}
}

func TestVote(t *testing.T) { // P17.2: in one term it votes for one alone
	log := state(5, -1, terms(1, 3, 3)...)
	for _, c := range []struct {
		vote                 int
		term, index, logTerm uint64
		ok                   bool
		behind               uint64
		voted                int
	}{
		{-1, 5, 3, 3, true, 5, 0}, {-1, 5, 9, 3, true, 5, 0}, {-1, 5, 1, 4, true, 5, 0}, {-1, 5, 2, 3, false, 5, -1}, {-1, 5, 9, 2, false, 5, -1}, {-1, 4, 9, 9, false, 5, -1},
		{0, 5, 3, 3, true, 5, 0}, {1, 5, 3, 3, false, 5, 1}, {2, 5, 9, 9, false, 5, 2}, {2, 6, 3, 3, true, 6, 0}, {2, 6, 2, 3, false, 6, -1}, {0, 7, 0, 0, false, 7, -1}, {-1, top, 3, 3, true, top, 0}, {2, 0, 9, 9, false, 5, 2},
	} {
		s := log
		s.Vote = c.vote
		x := begins(t, 1, 3, 2, s)
		for range 2 {
			x.says(0, Msg{Kind: Vote, Term: c.term, Index: c.index, LogTerm: c.logTerm}, Msg{Kind: Voted, Term: c.behind, OK: c.ok})
			x.is(Follower, -1, c.behind, c.voted, 0)
		}
		if c.ok {
			x.says(2, Msg{Kind: Vote, Term: c.term, Index: 9, LogTerm: 9}, Msg{Kind: Voted, Term: c.behind})
			y := begins(t, 1, 3, 2, x.r.State) // nor does it when it begins anew
			y.says(2, Msg{Kind: Vote, Term: c.term, Index: 9, LogTerm: 9}, Msg{Kind: Voted, Term: c.behind})
		}
	}
	x := begins(t, 1, 3, 2, fresh())
	x.steps(0, Msg{Kind: Append, Term: 1})
	x.says(2, Msg{Kind: Vote, Term: 1}, Msg{Kind: Voted, Term: 1, OK: true}) // it knows a leader, but hasn't voted
	x.is(Follower, 0, 1, 2, 0)
	x.says(0, Msg{Kind: Vote, Term: 2}, Msg{Kind: Voted, Term: 2, OK: true})
	x.is(Follower, -1, 2, 0, 0)
	x = leads(t, fresh())
	x.says(1, Msg{Kind: Vote, Term: 1, Index: 9, LogTerm: 9}, Msg{Kind: Voted, Term: 1}) // it has voted for itself
	x.is(Leader, 0, 1, 0, 0)
	x.says(1, Msg{Kind: Vote, Term: 2, Index: 9}, Msg{Kind: Voted, Term: 2})
	x.is(Follower, -1, 2, -1, 0)
}

func TestVoted(t *testing.T) { // P17.2
	x := begins(t, 0, 5, 2, state(3, -1, terms(2, 3)...))
	x.quiet(1, Msg{Kind: Voted, Term: 3, OK: true})
	x.ticks(2)
	x.steps(1, Msg{Kind: PreVoted, Term: 4, OK: true})
	x.steps(2, Msg{Kind: PreVoted, Term: 4, OK: true})
	x.is(Candidate, -1, 4, 0, 0)
	x.quiet(1, Msg{Kind: Voted, Term: 4})
	x.quiet(2, Msg{Kind: Voted, Term: 3, OK: true})
	x.quiet(3, Msg{Kind: Voted, Term: 4, OK: true})
	x.quiet(3, Msg{Kind: Voted, Term: 4, OK: true})
	x.is(Candidate, -1, 4, 0, 0)
	got := x.steps(1, Msg{Kind: Voted, Term: 4, OK: true})
	x.is(Leader, 0, 4, 0, 0)
	x.has(0, 0, terms(2, 3, 4)...)
	if len(got) != 4 {
		t.Fatalf("it leads by %v", got)
	}
	for i, m := range got {
		if !sameMsg(m, Msg{Kind: Append, To: i + 1, Term: 4, Index: 2, LogTerm: 3, Entries: terms(4)}) {
			t.Errorf("it sends %+v", m)
		}
	}
	x.quiet(2, Msg{Kind: Voted, Term: 4, OK: true}) // it leads already
	x.has(0, 0, terms(2, 3, 4)...)
	x.quiet(2, Msg{Kind: Voted, Term: 5, OK: true})
	x.is(Follower, -1, 5, -1, 0)
}

func TestAppend(t *testing.T) { // P17.2
	s := State{Hard: Hard{Term: 5, Vote: 2}, Base: 4, BaseTerm: 2, Entries: terms(2, 3, 3, 5)} // indexes 5 to 8
	for _, c := range []struct {
		what                         string
		term, index, logTerm, commit uint64
		entries                      []Entry
		answer                       Msg // with the kind 0: none
		log                          []Entry
		behind                       uint64 // the commit
	}{
		{"an older term", 4, 8, 5, 8, nil, Msg{Kind: Appended}, s.Entries, 4},
		{"nothing new", 5, 8, 5, 0, nil, Msg{Kind: Appended, OK: true, Index: 8}, s.Entries, 4},
		{"agreed on up to the end", 5, 8, 5, 9, nil, Msg{Kind: Appended, OK: true, Index: 8}, s.Entries, 8},
		{"agreed on up to what it says", 5, 6, 3, 9, nil, Msg{Kind: Appended, OK: true, Index: 6}, s.Entries, 6},
		{"agreed on up to less", 5, 6, 3, 5, terms(3), Msg{Kind: Appended, OK: true, Index: 7}, s.Entries, 5},
		{"beyond the end", 5, 9, 5, 9, terms(5), Msg{Kind: Appended, Index: 4}, s.Entries, 4},
		{"far beyond", 5, top, 5, top, terms(5), Msg{Kind: Appended, Index: 4}, s.Entries, 4},
		{"another term", 5, 8, 4, 9, terms(5), Msg{Kind: Appended, Index: 4}, s.Entries, 4},
		{"another term at the base", 5, 4, 1, 9, terms(5), Msg{Kind: Appended, Index: 4}, s.Entries, 4},
		{"one more", 5, 8, 5, 99, terms(5), Msg{Kind: Appended, OK: true, Index: 9}, terms(2, 3, 3, 5, 5), 9},
		{"of those that are there some", 5, 5, 2, 0, terms(3), Msg{Kind: Appended, OK: true, Index: 6}, s.Entries, 4},
		{"some that are there and more", 5, 6, 3, 8, terms(3, 5, 5, 5), Msg{Kind: Appended, OK: true, Index: 10}, terms(2, 3, 3, 5, 5, 5), 8},
		{"other ones", 6, 5, 2, 6, terms(3, 4), Msg{Kind: Appended, Term: 6, OK: true, Index: 7}, terms(2, 3, 4), 6},
		{"other ones from the base on", 6, 4, 2, 0, terms(6), Msg{Kind: Appended, Term: 6, OK: true, Index: 5}, terms(6), 4},
		{"from the base on", 5, 4, 2, 0, terms(2, 3, 3, 5, 5), Msg{Kind: Appended, OK: true, Index: 9}, terms(2, 3, 3, 5, 5), 4},
		{"from below the base on", 5, 2, 77, 3, terms(0, 0, 2, 4), Msg{Kind: Appended, OK: true, Index: 6}, terms(2, 4), 4},
		{"below the base alone", 5, 1, 77, 9, terms(1, 1), Msg{Kind: Appended, OK: true, Index: 3}, s.Entries, 4},
		{"below the base, without any", 5, 3, 77, 9, nil, Msg{Kind: Appended, OK: true, Index: 3}, s.Entries, 4},
		{"up to the base", 5, 3, 77, 9, terms(1), Msg{Kind: Appended, OK: true, Index: 4}, s.Entries, 4},
		{"one that would fall", 5, 5, 2, 9, terms(1), Msg{}, s.Entries, 4},
		{"one that would fall behind the end", 5, 8, 5, 9, terms(4, 5), Msg{}, s.Entries, 4},
		{"one that would fall behind the base", 5, 3, 2, 9, terms(1, 1, 5), Msg{}, s.Entries, 4},
	} {
		x := begins(t, 1, 3, 2, s)
		x.tick()
		m := Msg{Kind: Append, Term: c.term, Index: c.index, LogTerm: c.logTerm, Commit: c.commit, Entries: c.entries}
		if c.answer.Kind == 0 {
			x.quiet(0, m)
		} else {
			c.answer.Term = max(c.answer.Term, 5)
			x.says(0, m, c.answer)
		}
		x.has(4, 2, c.log...)
		lead := 0
		if c.term < 5 {
			lead = -1
		}
		vote := 2
		if c.term > 5 {
			vote = -1
		}
		x.is(Follower, lead, max(c.term, 5), vote, c.behind)
	}
}

func TestAppendAgainstCommit(t *testing.T) { // P17.2, P17.5
	x := begins(t, 1, 3, 2, state(5, -1, terms(1, 2, 3, 4)...))
	x.says(0, Msg{Kind: Append, Term: 5, Index: 2, LogTerm: 2, Commit: 9}, Msg{Kind: Appended, Term: 5, OK: true, Index: 2})
	x.is(Follower, 0, 5, -1, 2)
	x.quiet(0, Msg{Kind: Append, Term: 5, Index: 1, LogTerm: 1, Entries: terms(3), Commit: 9}) // it would take the place of what is agreed on
	x.quiet(0, Msg{Kind: Append, Term: 6, Index: 0, Entries: terms(2), Commit: 9})
	x.has(0, 0, terms(1, 2, 3, 4)...)
	x.is(Follower, 0, 6, -1, 2)
	x.says(0, Msg{Kind: Append, Term: 6, Index: 3, LogTerm: 9}, Msg{Kind: Appended, Term: 6, Index: 2}) // it tells its commit
	x.says(0, Msg{Kind: Append, Term: 6, Index: 0, Entries: terms(1, 2, 6), Commit: 1}, Msg{Kind: Appended, Term: 6, OK: true, Index: 3})
	x.has(0, 0, terms(1, 2, 6)...)
	x.is(Follower, 0, 6, -1, 2) // it never falls
}

func TestWhoHearsLeaders(t *testing.T) { // P17.2
	for _, kind := range []int{Append, Snap} {
		x := begins(t, 0, 3, 2, state(3, -1))
		x.ticks(2)
		x.is(Asking, -1, 3, -1, 0)
		x.says(2, Msg{Kind: kind, Term: 3}, Msg{Kind: Appended, Term: 3, OK: true})
		x.is(Follower, 2, 3, -1, 0)
		x.says(1, Msg{Kind: kind, Term: 3}, Msg{Kind: Appended, Term: 3, OK: true}) // whoever says so leads
		x.is(Follower, 1, 3, -1, 0)
		x.ticks(2)
		x.steps(1, Msg{Kind: PreVoted, Term: 4, OK: true})
		x.is(Candidate, -1, 4, 0, 0)
		x.says(1, Msg{Kind: kind, Term: 3}, Msg{Kind: Appended, Term: 4})
		x.is(Candidate, -1, 4, 0, 0)
		x.says(1, Msg{Kind: kind, Term: 4}, Msg{Kind: Appended, Term: 4, OK: true})
		x.is(Follower, 1, 4, 0, 0)
		x = leads(t, state(3, -1))
		x.quiet(1, Msg{Kind: kind, Term: 4, Index: 9, LogTerm: 4, Entries: terms(4)})
		x.is(Leader, 0, 4, 0, 0)
		x.says(1, Msg{Kind: kind, Term: 3}, Msg{Kind: Appended, Term: 4})
		x.is(Leader, 0, 4, 0, 0)
		x.says(1, Msg{Kind: kind, Term: 5}, Msg{Kind: Appended, Term: 5, OK: true})
		x.is(Follower, 1, 5, -1, 0)
	}
}

func TestSnap(t *testing.T) { // P17.2
	s := State{Hard: Hard{Term: 5, Vote: 2}, Base: 4, BaseTerm: 2, Entries: terms(2, 3, 3, 5)} // indexes 5 to 8
	for _, c := range []struct {
		term, index, logTerm uint64
		answer               Msg // with the kind 0: none
		base, baseTerm       uint64
		log                  []Entry
		commit               uint64
		wants                bool
	}{
		{4, 9, 4, Msg{Kind: Appended}, 4, 2, s.Entries, 6, false},
		{5, 9, 5, Msg{Kind: Appended, OK: true, Index: 9}, 9, 5, nil, 9, true},
		{5, 9, 0, Msg{Kind: Appended, OK: true, Index: 9}, 9, 0, nil, 9, true},
		{6, 9, 6, Msg{Kind: Appended, OK: true, Index: 9}, 9, 6, nil, 9, true},
		{5, top, 5, Msg{Kind: Appended, OK: true, Index: top}, top, 5, nil, top, true},
		{5, 8, 5, Msg{Kind: Appended, OK: true, Index: 8}, 4, 2, s.Entries, 8, false},
		{5, 7, 3, Msg{Kind: Appended, OK: true, Index: 7}, 4, 2, s.Entries, 7, false},
		{5, 7, 2, Msg{Kind: Appended, OK: true, Index: 7}, 7, 2, nil, 7, true},
		{5, 8, 4, Msg{Kind: Appended, OK: true, Index: 8}, 8, 4, nil, 8, true},
		{5, 9, 6, Msg{}, 4, 2, s.Entries, 6, false},
		{6, 9, 7, Msg{}, 4, 2, s.Entries, 6, false},
		{5, 7, math.MaxUint64, Msg{}, 4, 2, s.Entries, 6, false},
		{5, 6, 3, Msg{Kind: Appended, OK: true, Index: 6}, 4, 2, s.Entries, 6, false},
		{5, 6, 9, Msg{Kind: Appended, OK: true, Index: 6}, 4, 2, s.Entries, 6, false}, // it is agreed on already
		{5, 1, 0, Msg{Kind: Appended, OK: true, Index: 6}, 4, 2, s.Entries, 6, false},
		{5, 0, 6, Msg{Kind: Appended, OK: true, Index: 6}, 4, 2, s.Entries, 6, false},
	} {
		x := begins(t, 1, 3, 2, s)
		x.steps(0, Msg{Kind: Append, Term: 5, Index: 6, LogTerm: 3, Commit: 6})
		m := Msg{Kind: Snap, To: 1, Term: c.term, Index: c.index, LogTerm: c.logTerm, Data: []byte("all")}
		if got := x.r.Wants(m); got != c.wants {
			t.Errorf("Wants(%+v) = %v", m, got)
		}
		other := m
		other.Kind = Append
		if x.r.Wants(other) {
			t.Errorf("Wants(%+v)", other)
		}
		if c.answer.Kind == 0 {
			x.quiet(0, m)
		} else {
			c.answer.Term = max(c.term, 5)
			x.says(0, m, c.answer)
		}
		x.has(c.base, c.baseTerm, c.log...)
		x.is(Follower, 0, max(c.term, 5), map[bool]int{true: -1, false: 2}[c.term > 5], c.commit)
		if x.r.Wants(m) {
			t.Errorf("Wants(%+v) once more", m)
		}
	}
	x := leads(t, fresh())
	if x.r.Wants(Msg{Kind: Snap, From: 1, Term: 1, Index: 9, LogTerm: 1}) || !x.r.Wants(Msg{Kind: Snap, From: 1, Term: 2, Index: 9, LogTerm: 1}) || x.r.Wants(Msg{Kind: Snap, From: 0, Term: 2, Index: 9, LogTerm: 1}) {
		t.Errorf("a leader wants")
	}
}

func TestAppended(t *testing.T) { // P17.2
	var many []Entry
	for i := range 40 {
		many = append(many, e(2, fmt.Sprint(i)))
	}
	x := leads(t, state(2, -1, many...)) // its own entry has the index 41
	ok := func(i uint64) Msg { return Msg{Kind: Appended, Term: 3, OK: true, Index: i} }
	no := func(i uint64) Msg { return Msg{Kind: Appended, Term: 3, Index: i} }
	sends := func(got []Msg, to int, index uint64, count int) {
		t.Helper()
		term, _ := x.r.TermAt(index)
		want := Msg{Kind: Append, To: to, Term: 3, Index: index, LogTerm: term, Commit: x.r.Commit(), Entries: x.r.From(index + 1)[:count]}
		if len(got) != 1 || !sameMsg(got[0], want) {
			t.Errorf("it sends %+v; want %+v", got, want)
		}
	}
	sends(x.tick()[:1], 1, 40, 1)
	sends(x.steps(1, no(0)), 1, 0, 16)
	sends(x.tick()[:1], 1, 0, 16)
	sends(x.steps(1, no(7)), 1, 7, 16)
	x.quiet(1, ok(23))
	x.is(Leader, 0, 3, 0, 0) // of an older term it is agreed on by nobody yet
	all := x.tick()
	sends(all[:1], 1, 23, 16)
	sends(all[1:], 2, 40, 1)
	sends(x.steps(1, no(5)), 1, 23, 16) // it never has less
	sends(x.steps(1, no(30)), 1, 30, 11)
	x.quiet(1, ok(23)) // it has as much already
	sends(x.tick()[:1], 1, 30, 11)
	x.quiet(1, ok(24))
	sends(x.tick()[:1], 1, 24, 16)
	x.quiet(1, ok(42)) // it can't have more than there is
	x.quiet(1, ok(top))
	x.is(Leader, 0, 3, 0, 0)
	sends(x.steps(1, no(top)), 1, 41, 0)
	x.quiet(1, ok(40))
	x.is(Leader, 0, 3, 0, 0)
	x.quiet(2, Msg{Kind: Appended, Term: 2, OK: true, Index: 41}) // an older term's
	x.quiet(2, Msg{Kind: Appended, Term: 2, Index: 3})
	x.is(Leader, 0, 3, 0, 0)
	x.quiet(1, ok(41))
	x.is(Leader, 0, 3, 0, 41)
	x.propose("x")
	x.propose("y")
	x.quiet(2, ok(42))
	x.is(Leader, 0, 3, 0, 42)
	x.quiet(1, ok(43))
	x.is(Leader, 0, 3, 0, 43)
	x.quiet(2, Msg{Kind: Appended, Term: 4, OK: true, Index: 43})
	x.is(Follower, -1, 4, -1, 43)
	x.quiet(2, Msg{Kind: Appended, Term: 4, OK: true, Index: 43})
	x.quiet(2, Msg{Kind: Appended, Term: 4, Index: 43})
	x.quiet(2, Msg{Kind: Appended, Term: 3, Index: 43})
}

func TestMajorities(t *testing.T) { // P17.2: what more than half of all have is agreed on
	for n := 2; n <= api.MaxNodes; n++ {
		x := begins(t, 0, n, 1, fresh())
		x.tick()
		for _, kind := range []int{PreVoted, Voted} {
			for from := 1; from <= n/2; from++ {
				x.steps(from, Msg{Kind: kind, Term: 1, OK: true})
			}
		}
		for range 5 {
			x.propose("x")
		}
		for from := 1; from < n; from++ {
			x.steps(from, Msg{Kind: Appended, Term: 1, OK: true, Index: uint64(7 - from)})
			want := uint64(0)
			if 2*(from+1) > n {
				want = uint64(7 - from) // the least of those that are needed
				if from > n/2 {
					want = uint64(7 - n/2)
				}
			}
			x.is(Leader, 0, 1, 0, want)
		}
	}
}

func TestSnapIsSent(t *testing.T) { // P17.2
	x := leads(t, state(2, -1, terms(1, 1, 2, 2)...))
	x.steps(1, Msg{Kind: Appended, Term: 3, OK: true, Index: 5})
	if x.compact(3) != api.OK || x.compact(2) != api.ErrArg || x.compact(6) != api.ErrArg || x.compact(3) != api.OK {
		t.Errorf("Compact")
	}
	x.has(3, 2, terms(2, 3)...)
	snap := Msg{Kind: Snap, To: 2, Term: 3, Index: 3, LogTerm: 2}
	if got := x.steps(2, Msg{Kind: Appended, Term: 3, Index: 2}); !sameMsgs(got, []Msg{snap}) { // it lacks what stood at the base
		t.Errorf("it sends %+v", got)
	}
	if got := x.tick(); len(got) != 2 || got[0].Kind != Append || !sameMsg(got[1], snap) {
		t.Errorf("it sends %+v", got)
	}
	if got := x.steps(2, Msg{Kind: Appended, Term: 3, Index: 3}); !sameMsgs(got, []Msg{{Kind: Append, To: 2, Term: 3, Index: 3, LogTerm: 2, Commit: 5, Entries: terms(2, 3)}}) {
		t.Errorf("it sends %+v", got)
	}
	if x.compact(5) != api.OK {
		t.Errorf("Compact")
	}
	snap.Index, snap.LogTerm = 5, 3
	if got := x.tick(); len(got) != 2 || got[0].Kind != Append || got[0].Index != 5 || len(got[0].Entries) > 0 || !sameMsg(got[1], snap) {
		t.Errorf("it sends %+v", got)
	}
	x.quiet(2, Msg{Kind: Appended, Term: 3, OK: true, Index: 5})
	x.propose("x")
	if got := x.tick(); len(got) != 2 || got[1].Kind != Append || got[1].Index != 5 || len(got[1].Entries) != 1 {
		t.Errorf("it sends %+v", got)
	}
}

func TestPropose(t *testing.T) { // P17.2
	x := begins(t, 0, 3, 2, state(2, -1))
	x.propose("x")
	x.ticks(2)
	x.propose("x")
	x.steps(1, Msg{Kind: PreVoted, Term: 3, OK: true})
	x.propose("x")
	x.has(0, 0)
	x.steps(1, Msg{Kind: Voted, Term: 3, OK: true})
	i, got := x.propose("x")
	if want := []Entry{e(3, ""), e(3, "x")}; i != 2 || !sameMsgs(got, []Msg{{Kind: Append, To: 1, Term: 3, Entries: want}, {Kind: Append, To: 2, Term: 3, Entries: want}}) {
		t.Errorf("Propose = %d, %+v", i, got)
	}
	x.is(Leader, 0, 3, 0, 0)
	x.propose("")
	x.has(0, 0, e(3, ""), e(3, "x"), e(3, ""))
	x.steps(1, Msg{Kind: Vote, Term: 4})
	x.propose("x")
	x.has(0, 0, e(3, ""), e(3, "x"), e(3, ""))
}

func TestCompact(t *testing.T) { // P17.2
	x := begins(t, 1, 3, 2, State{Hard: Hard{Term: 5, Vote: -1}, Base: 4, BaseTerm: 2, Entries: []Entry{e(2, "a"), e(3, "b"), e(3, "c"), e(5, "d")}})
	for _, i := range []uint64{0, 3, 5, 8, math.MaxUint64} {
		if x.compact(i) != api.ErrArg {
			t.Errorf("Compact(%d)", i)
		}
	}
	if x.compact(4) != api.OK {
		t.Errorf("Compact(4)")
	}
	x.steps(0, Msg{Kind: Append, Term: 5, Index: 7, LogTerm: 3, Commit: 7})
	x.has(4, 2, e(2, "a"), e(3, "b"), e(3, "c"), e(5, "d"))
	if x.compact(8) != api.ErrArg || x.compact(6) != api.OK {
		t.Errorf("Compact")
	}
	x.has(6, 3, e(3, "c"), e(5, "d"))
	if x.compact(5) != api.ErrArg || x.compact(7) != api.OK {
		t.Errorf("Compact")
	}
	x.has(7, 3, e(5, "d"))
	x.is(Follower, 0, 5, -1, 7)
	x.says(0, Msg{Kind: Append, Term: 5, Index: 8, LogTerm: 5, Commit: 9, Entries: terms(5)}, Msg{Kind: Appended, Term: 5, OK: true, Index: 9})
	if x.compact(9) != api.OK {
		t.Errorf("Compact(9)")
	}
	x.has(9, 5)
	x.says(0, Msg{Kind: Append, Term: 5, Index: 9, LogTerm: 5, Entries: terms(5)}, Msg{Kind: Appended, Term: 5, OK: true, Index: 10})
	x.has(9, 5, terms(5)...)

	x = begins(t, 0, 1, 1, State{Hard: Hard{Term: 1, Vote: -1}, Base: top}) // no base is above 2^62
	x.tick()
	x.is(Leader, 0, 2, 0, top+1)
	if x.compact(top+1) != api.ErrArg || x.compact(top) != api.OK {
		t.Errorf("Compact above 2^62")
	}
}

// source gives numbers out of a script; 0 when it ends.
type source struct{ script []byte }

func (s *source) below(n int) int {
	if len(s.script) == 0 {
		return 0
	}
	b := s.script[0]
	s.script = s.script[1:]
	return int(b) % n
}

// near is a number near one of these, or one far away.
func (s *source) near(of ...uint64) uint64 {
	if s.below(40) == 39 {
		return []uint64{0, 1, top - 1, top, top + 1, math.MaxUint64}[s.below(6)]
	}
	n := of[s.below(len(of))]
	switch s.below(8) {
	case 6:
		return n + uint64(s.below(3))
	case 7:
		return n - min(n, uint64(s.below(3)))
	}
	return n
}

// anyMsg is a message that may come to a node as it is now.
func (s *source) anyMsg(p *plain) Msg {
	m := Msg{Kind: 1 + s.below(7), From: s.below(p.n), To: p.id, Term: s.near(p.term, p.term, p.term+1), OK: s.below(3) > 0}
	if m.From == p.id {
		m.From = (p.id + 1) % p.n
	}
	m.Index = s.near(p.last, p.last, p.commit, p.base, p.last-(p.last-p.base)/2)
	t, _ := p.termAt(m.Index)
	m.LogTerm = s.near(t, t, t, p.term, p.baseTerm)
	m.Commit = s.near(p.commit, p.last, m.Index)
	if m.Kind == Append || s.below(20) == 0 {
		at := min(m.LogTerm-min(m.LogTerm, uint64(s.below(9)/8)), m.Term)
		for range s.below(5) * (1 + s.below(5)) {
			if own, there := p.termAt(m.Index + 1 + uint64(len(m.Entries))); there && s.below(3) > 0 {
				at = own
			} else if s.below(3) == 0 {
				at = s.near(at, m.Term, at+1, p.baseTerm)
			}
			m.Entries = append(m.Entries, e(at, string(rune('a'+s.below(26)))))
		}
	}
	if m.Kind == Snap || s.below(20) == 0 {
		m.Data = []byte{byte(s.below(256))}
	}
	switch s.below(50) {
	case 47:
		m.Kind = s.below(12) - 2
	case 48:
		m.From = s.below(8) - 1
	case 49:
		m.To = s.below(8) - 1
	}
	return m
}

// helpful is a message that makes it lead, or tells a leader what another one has.
func (s *source) helpful(p *plain) Msg {
	m := Msg{From: (p.id + 1 + s.below(max(p.n-1, 1))) % p.n, To: p.id, Term: p.term, OK: true}
	switch p.role {
	case Asking:
		m.Kind, m.Term = PreVoted, p.term+1
	case Candidate:
		m.Kind = Voted
	default:
		m.Kind, m.Index, m.OK = Appended, p.last-min(uint64(s.below(3)), p.last-p.base), s.below(4) > 0
	}
	return m
}

// anyState is a state, mostly in form.
func (s *source) anyState(n int) State {
	out := State{Hard: Hard{Term: s.near(5), Vote: s.below(n+1) - 1}, Base: s.near(0, 7), BaseTerm: s.near(0, 2)}
	at := out.BaseTerm
	for range s.below(6) * (1 + s.below(6)) {
		at = min(at+uint64(s.below(3)/2), max(out.Term, at))
		out.Entries = append(out.Entries, e(at, string(rune('a'+s.below(26)))))
	}
	return out
}

// play plays a script against the plain node.
func play(t *testing.T, script []byte, seen map[string]int) {
	s := &source{script}
	n := 1 + s.below(api.MaxNodes)
	id, limit := s.below(n), 1+s.below(3)
	first := s.anyState(n)
	if !plainForm(n, first) {
		if _, err := New(id, n, limit, first); err != api.ErrForm {
			t.Fatalf("New(%+v) = %v", first, err)
		}
		first = fresh()
	}
	x := begins(t, id, n, limit, first)
	votes := map[uint64]int{}
	for len(s.script) > 0 {
		term, commit, role := x.p.term, x.p.commit, x.p.role
		op := s.below(16)
		switch {
		case op < 3:
			x.tick()
		case op < 6:
			x.step(s.helpful(x.p))
		case op < 13:
			m := s.anyMsg(x.p)
			x.step(m)
			if x.p.installed {
				seen["it installs"]++
			}
			seen[x.p.why]++
		case op == 13:
			x.propose(string(rune('a' + s.below(26))))
		case op == 14:
			x.compact(s.near(x.p.base, x.p.commit))
		case s.below(4) == 0:
			x = begins(t, id, n, limit, x.r.State)
			commit = x.p.commit
			seen["it begins anew"]++
		}
		if x.r.Term < term || x.r.Commit() < commit { // P17.2
			t.Fatalf("the term falls from %d to %d, or the commit from %d to %d", term, x.r.Term, commit, x.r.Commit())
		}
		if was, there := votes[x.r.Term]; there && was != x.r.Vote { // P17.2
			t.Fatalf("in term %d it votes for %d and %d", x.r.Term, was, x.r.Vote)
		}
		if x.r.Vote != -1 {
			votes[x.r.Term] = x.r.Vote
		}
		if x.p.role != role {
			seen[[]string{"it follows", "it asks", "it stands", "it leads"}[x.p.role]]++
		}
		if x.p.role == Leader && x.p.commit > commit {
			seen["a leader's is agreed on"]++
		}
	}
}

func TestAnyCalls(t *testing.T) { // P17.1, P17.2
	r := rand.New(rand.NewPCG(17, 1))
	seen := map[string]int{}
	for range 2000 {
		script := make([]byte, 20+r.IntN(1500))
		for i := range script {
			script[i] = byte(r.Uint32())
		}
		play(t, script, seen)
	}
	for _, what := range []string{"it installs", "doesn't fit", "passed over", "below the commit", "replaced", "not in form", "it begins anew", "it follows", "it asks", "it stands", "it leads", "a leader's is agreed on"} {
		if seen[what] < 25 {
			t.Errorf("%q was seen %d times alone: %v", what, seen[what], seen)
		}
	}
}

func FuzzPlay(f *testing.F) { // P1, P17.1, P17.2
	f.Add([]byte{2, 0, 1, 1, 2, 3, 4, 5, 6, 7, 8})
	f.Add(bytes.Repeat([]byte{2, 0, 1, 5, 3, 3, 9, 13, 7, 40, 14}, 30))
	f.Fuzz(func(t *testing.T, script []byte) { play(t, script, map[string]int{}) })
}

// roomy is a list with spare room that isn't empty.
func roomy(b []byte) []byte { return append(slices.Clone(b), 0, 1, 2, 255)[:len(b)] }

// roomyEntries are entries with spare room, in each one's data, too.
func roomyEntries(list ...Entry) []Entry {
	var out []Entry
	for _, x := range list {
		out = append(out, Entry{Term: x.Term, Data: roomy(x.Data)})
	}
	return append(out, e(99, "spare"), e(98, "room"))[:len(list)]
}

// intact: is all of it, spare room too, as roomyEntries made it?
func intact(got []Entry, want ...Entry) bool {
	for i, x := range got {
		if data := append(slices.Clone(want[i].Data), 0, 1, 2, 255); x.Term != want[i].Term || !bytes.Equal(x.Data[:len(data)], data) {
			return false
		}
	}
	return sameEntries(got[:len(got)+2], append(slices.Clone(want), e(99, "spare"), e(98, "room")))
}

// fill spoils all of a list, spare room too.
func fill(b []byte) {
	b = b[:cap(b)]
	for i := range b {
		b[i] = 0xEE
	}
}

// spoil spoils entries, spare room too.
func spoil(list []Entry) {
	list = list[:cap(list)]
	for i := range list {
		fill(list[i].Data)
		list[i] = Entry{Term: 77, Data: []byte("spoilt")}
	}
}

func TestMemoryOfArguments(t *testing.T) { // P17.7
	list := []Entry{e(1, "one"), e(2, "two"), e(2, "")}
	given := roomyEntries(list...)
	x := begins(t, 1, 3, 2, State{Hard: Hard{Term: 5, Vote: -1}, Base: 3, BaseTerm: 1, Entries: given})
	spoil(given)
	agrees(t, "New, spoilt", x.r, x.p)

	given = roomyEntries(list...)
	x = begins(t, 1, 3, 2, State{Hard: Hard{Term: 5, Vote: -1}, Base: 3, BaseTerm: 1, Entries: given})
	x.steps(0, Msg{Kind: Append, Term: 5, Index: 6, LogTerm: 2, Commit: 6, Entries: []Entry{e(3, "more")}})
	x.steps(0, Msg{Kind: Append, Term: 6, Index: 6, LogTerm: 2, Commit: 6, Entries: []Entry{e(4, "other"), e(4, "ones")}})
	x.compact(5)
	x.steps(0, Msg{Kind: Snap, Term: 6, Index: 9, LogTerm: 5})
	if !intact(given, list...) {
		t.Errorf("New's list became %v", given)
	}

	for _, index := range []uint64{0, 2, 3} { // all are new; some take others' places; all are beyond
		x = begins(t, 1, 3, 2, state(5, -1, terms(1, 1, 2)...))
		given = roomyEntries(e(2, "a"), e(4, "b"), e(5, "c"))
		data := roomy([]byte("data"))
		m := Msg{Kind: Append, Term: 5, Index: index, LogTerm: x.r.State.Entries[max(index, 1)-1].Term * min(index, 1), Entries: given, Data: data}
		x.steps(0, m)
		if x.r.Last() != index+3 {
			t.Fatalf("the entries aren't taken: %+v", x.r.State)
		}
		x.steps(0, Msg{Kind: Append, Term: 6, Index: index + 1, LogTerm: 2, Entries: terms(6)})
		x.steps(0, Msg{Kind: Append, Term: 6, Index: index + 2, LogTerm: 6, Entries: terms(6)})
		if !intact(given, e(2, "a"), e(4, "b"), e(5, "c")) || !bytes.Equal(data[:8], []byte("data\x00\x01\x02\xff")) {
			t.Errorf("the message became %+v", m)
		}
		spoil(given)
		fill(data)
		agrees(t, "a message, spoilt", x.r, x.p)
	}

	x = leads(t, fresh())
	data := roomy([]byte("data"))
	x.propose("first")
	i, _, _ := x.r.Propose(data)
	x.p.put([]byte("data"))
	if !bytes.Equal(data[:8], []byte("data\x00\x01\x02\xff")) {
		t.Errorf("Propose: the data became %q", data[:8])
	}
	fill(data)
	agrees(t, "Propose, spoilt", x.r, x.p)
	if got := x.r.From(i); !sameEntries(got, []Entry{e(1, "data")}) {
		t.Errorf("From = %v", got)
	}
}

func TestMemoryOfAnswers(t *testing.T) { // P17.7
	x := leads(t, state(2, -1, e(1, "a"), e(2, "b")))
	spoilt := func(what string, got []Msg) {
		t.Helper()
		for i, m := range got {
			rest := slices.Clone(got[i+1:])
			var before []Msg
			for _, o := range rest {
				o.Entries = kept(State{Entries: o.Entries}).Entries
				before = append(before, o)
			}
			for k := range m.Entries { // one behind the other: none of them shares with another one
				behind := kept(State{Entries: m.Entries[k+1:]}).Entries
				fill(m.Entries[k].Data)
				if !sameEntries(m.Entries[k+1:], behind) {
					t.Errorf("%s: entries of one message share memory", what)
				}
			}
			spoil(m.Entries)
			fill(m.Data)
			if !sameMsgs(rest, before) {
				t.Errorf("%s: messages share memory", what)
			}
		}
		clear(got[:cap(got)])
		agrees(t, what+", spoilt", x.r, x.p)
	}
	spoilt("Tick", x.tick())
	_, got := x.propose("c")
	spoilt("Propose", got)
	got = x.steps(1, Msg{Kind: Appended, Term: 3})
	if len(got) != 1 || len(got[0].Entries) != 4 {
		t.Fatalf("Step = %v", got)
	}
	spoilt("Step", got)
	for range 2 {
		list := x.r.From(2)
		if !sameEntries(list, []Entry{e(2, "b"), e(3, ""), e(3, "c")}) {
			t.Errorf("From = %v", list)
		}
		spoil(list)
		agrees(t, "From, spoilt", x.r, x.p)
	}
	x = begins(t, 0, 3, 2, state(2, -1, e(1, "a"), e(2, "b")))
	x.ticks(2)
	x.steps(1, Msg{Kind: PreVoted, Term: 3, OK: true})
	spoilt("it leads", x.steps(1, Msg{Kind: Voted, Term: 3, OK: true}))
}

func TestStatesStay(t *testing.T) { // P17.7: who has a State of a node has it for good
	var had []State
	var copies []State
	look := func(what string, r *Node) {
		t.Helper()
		if spare := r.Entries[len(r.Entries):cap(r.Entries)]; len(spare) > 0 {
			t.Fatalf("%s: others could write where later entries go", what)
		}
		for i, s := range had {
			if !sameState(s, copies[i]) {
				t.Fatalf("%s: the State %+v became %+v", what, copies[i], s)
			}
		}
		had, copies = append(had, r.State), append(copies, kept(r.State))
	}
	x := begins(t, 1, 3, 2, state(1, -1, e(1, "a"), e(1, "b"), e(1, "c")))
	look("New", x.r)
	x.steps(0, Msg{Kind: Append, Term: 2, Index: 3, LogTerm: 1, Entries: []Entry{e(2, "d"), e(2, "e")}})
	look("more", x.r)
	x.steps(0, Msg{Kind: Append, Term: 3, Index: 3, LogTerm: 1, Commit: 2, Entries: []Entry{e(3, "D")}})
	look("less", x.r)
	x.steps(0, Msg{Kind: Append, Term: 3, Index: 4, LogTerm: 3, Commit: 2, Entries: []Entry{e(3, "E"), e(3, "F")}})
	look("more again", x.r)
	x.steps(0, Msg{Kind: Append, Term: 4, Index: 2, LogTerm: 1, Commit: 2, Entries: []Entry{e(4, "x"), e(4, "y"), e(4, "z")}})
	look("others", x.r)
	x.compact(1)
	look("Compact", x.r)
	x.steps(0, Msg{Kind: Append, Term: 4, Index: 5, LogTerm: 4, Entries: []Entry{e(4, "!")}})
	look("behind Compact", x.r)
	x.steps(0, Msg{Kind: Snap, Term: 5, Index: 9, LogTerm: 5})
	look("Snap", x.r)
	x.steps(0, Msg{Kind: Append, Term: 5, Index: 9, LogTerm: 5, Entries: []Entry{e(5, "new")}})
	look("behind Snap", x.r)

	x = leads(t, state(1, -1, e(1, "a")))
	for i := range 40 {
		x.propose(fmt.Sprint(i))
		look("Propose", x.r)
	}
	x.steps(1, Msg{Kind: Appended, Term: 2, OK: true, Index: 30})
	for i := range 30 {
		x.compact(uint64(i))
		x.propose(fmt.Sprint(i))
		look("Propose and Compact", x.r)
	}
}

func TestAnyArguments(t *testing.T) { // P1
	ints := []int{math.MinInt, -1, 0, 1, 2, 4, 5, 7, 8, 1000, 1001, math.MaxInt}
	words := []uint64{0, 1, 2, top - 1, top, top + 1, 1 << 63, math.MaxUint64}
	for _, id := range ints {
		for _, n := range ints {
			for _, limit := range ints {
				New(id, n, limit, fresh())
				New(id, n, limit, State{Hard: Hard{Term: top, Vote: n}, Base: math.MaxUint64, Entries: terms(3, 2, math.MaxUint64)})
			}
		}
	}
	r := rand.New(rand.NewPCG(17, 2))
	word := func() uint64 { return words[r.IntN(len(words))] }
	for range 60 {
		n := 1 + r.IntN(5)
		first := []State{fresh(), state(top, 0, terms(0, 1, top)...), {Hard: Hard{Term: 2, Vote: -1}, Base: top, BaseTerm: 1, Entries: terms(1, 2)}, state(top-1, -1)}[r.IntN(4)]
		x := begins(t, r.IntN(n), n, 1+r.IntN(2), first)
		for range 100 {
			m := Msg{Kind: 1 + r.IntN(7), From: r.IntN(n), To: x.p.id, Term: word(), Index: word(), LogTerm: word(), Commit: word(), OK: r.IntN(2) == 0, Data: []byte("data")}
			for range r.IntN(3) {
				m.Entries = append(m.Entries, Entry{Term: word()})
			}
			slices.SortFunc(m.Entries, func(a, b Entry) int { return int(a.Term>>2) - int(b.Term>>2) })
			if r.IntN(5) == 0 {
				m.Kind, m.From, m.To = ints[r.IntN(len(ints))], ints[r.IntN(len(ints))], ints[r.IntN(len(ints))]
			}
			x.step(m)
			x.tick()
			x.step((&source{[]byte{byte(r.Uint32()), byte(r.Uint32()), byte(r.Uint32())}}).helpful(x.p))
			x.propose("")
			x.compact(word())
			x.r.TermAt(word())
			x.r.From(word())
		}
	}
}
