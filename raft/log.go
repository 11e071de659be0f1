package raft

import (
	"bytes"

	"caisson/api"
)

// own: entries in memory of their own.
func own(entries []Entry) []Entry {
	var out []Entry
	for _, e := range entries {
		out = append(out, Entry{Term: e.Term, Data: bytes.Clone(e.Data)})
	}
	return out
}

// keep: these are the log's entries from now on.
func (r *Node) keep(entries []Entry) {
	r.entries = entries
	r.Entries = entries[:len(entries):len(entries)] // who has a State of it can't reach the room that later entries go into
}

// put: entries at the end of the log.
func (r *Node) put(entries ...Entry) { r.keep(append(r.entries, entries...)) }

// cut: all entries from the index i on are gone. Who has a State of it still sees them: what is put later goes elsewhere.
func (r *Node) cut(i uint64) {
	if left := r.place(i); left < len(r.entries) {
		r.keep(r.entries[:left:left])
	}
}

// place: where the entry with the index i, which is above the base and at most Last and 1, stands among the entries.
func (r *Node) place(i uint64) int { return int(i - r.Base - 1) }

// Last: its log's last index.
func (r *Node) Last() uint64 { return r.Base + uint64(len(r.Entries)) }

// TermAt: the term at an index.
func (r *Node) TermAt(i uint64) (uint64, bool) {
	switch {
	case i < r.Base || i > r.Last():
		return 0, false
	case i == r.Base:
		return r.BaseTerm, true
	}
	return r.Entries[r.place(i)].Term, true
}

// matches: has its log this term at this index?
func (r *Node) matches(i, term uint64) bool {
	t, there := r.TermAt(i)
	return there && t == term
}

// upToDate: does a candidate's log, of which m tells the end, lack nothing that could be agreed on?
func (r *Node) upToDate(m Msg) bool {
	last := r.Last()
	term, _ := r.TermAt(last)
	return m.LogTerm > term || m.LogTerm == term && m.Index >= last
}

// From: the entries from an index on.
func (r *Node) From(i uint64) []Entry {
	if i > r.Last() {
		return nil
	}
	return own(r.Entries[r.place(max(i, r.Base+1)):])
}

// Propose: an entry at the end of the log.
func (r *Node) Propose(data []byte) (uint64, []Msg, api.Errno) {
	if r.role != Leader {
		return 0, nil, api.ErrLead
	}
	out := r.extend(data)
	return r.Last(), out, api.OK
}

// extend: a leader's entry at the end of the log is sent to all others.
func (r *Node) extend(data []byte) []Msg {
	r.put(Entry{Term: r.Term, Data: bytes.Clone(data)})
	r.agree() // alone it is a majority
	return r.toOthers(r.send)
}

// Compact: the base becomes i.
func (r *Node) Compact(i uint64) api.Errno {
	if i < r.Base || i > r.commit || i > mostTerm {
		return api.ErrArg
	}
	term, _ := r.TermAt(i)
	left := r.Entries[i-r.Base:]
	r.Base, r.BaseTerm = i, term
	r.keep(append([]Entry(nil), left...)) // elsewhere, as the room of those that are gone would stay as long as any of it is used
	return api.OK
}
