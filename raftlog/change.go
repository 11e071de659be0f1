package raftlog

import (
	"bytes"
	"slices"

	"caisson/api"
	"caisson/codec"
	"caisson/raft"
)

// The kinds of a record: its first byte. They begin far from what a record of somebody else is likely to begin with.
const (
	anEntry = 0xE1 + iota // a new entry
	theRest               // all else of a change, whose new entries are those just ahead
)

// numbers is how many a theRest has: term, vote, base and its term, how many entries stay, and how many are new.
const numbers = 6

// change is how a state becomes another one: that without its first entries; of its own, stay entries above the new base come first. In the log it is whole or not at all, as its last record is the one that counts.
type change struct {
	raft.State
	stay uint64
}

// own: entries in memory of their own.
func own(entries []raft.Entry) []raft.Entry {
	var out []raft.Entry
	for _, e := range entries {
		out = append(out, raft.Entry{Term: e.Term, Data: bytes.Clone(e.Data)})
	}
	return out
}

// above: the entries of s above a base that isn't below its own.
func above(s raft.State, base uint64) []raft.Entry {
	return s.Entries[min(base-s.Base, uint64(len(s.Entries))):]
}

// between: the change from one state to another one whose base isn't below.
func between(from, to raft.State) change {
	there := above(from, to.Base)
	stay := 0
	for stay < min(len(there), len(to.Entries)) && alike(there[stay], to.Entries[stay]) {
		stay++
	}
	c := change{State: to, stay: uint64(stay)}
	c.Entries = own(to.Entries[stay:])
	return c
}

// alike: are these the same entries?
func alike(a, b raft.Entry) bool { return a.Term == b.Term && bytes.Equal(a.Data, b.Data) }

// nothing: is s as it is to be already?
func (c change) nothing(s raft.State) bool {
	return c.Hard == s.Hard && c.Base == s.Base && c.BaseTerm == s.BaseTerm && c.stay == uint64(len(s.Entries)) && len(c.Entries) == 0
}

// after: what s becomes; false: it is no change of s.
func (c change) after(s raft.State) (raft.State, bool) {
	if c.Base < s.Base {
		return raft.State{}, false
	}
	there := above(s, c.Base)
	if c.stay > uint64(len(there)) {
		return raft.State{}, false
	}
	out := c.State
	out.Entries = slices.Clip(slices.Concat(there[:c.stay], c.Entries)) // what is put behind them by others goes elsewhere
	return out, true
}

// records: the change as records.
func (c change) records() [][]byte {
	var out [][]byte
	for _, e := range c.Entries {
		b := append([]byte{anEntry}, codec.PutU(e.Term)...)
		out = append(out, append(b, e.Data...))
	}
	last := []byte{theRest}
	for _, n := range [numbers]uint64{c.Term, fold(c.Vote), c.Base, c.BaseTerm, c.stay, uint64(len(c.Entries))} {
		last = append(last, codec.PutU(n)...)
	}
	return append(out, last)
}

// fold: a number that may be below 0, as one that is small where that is near 0.
func fold(n int) uint64 { return uint64(n)<<1 ^ uint64(n>>63) }

// unfold: the number that was folded.
func unfold(n uint64) int { return int(n>>1) ^ -int(n&1) }

// entryOf: the entry of a record, behind its kind.
func entryOf(b []byte) (raft.Entry, bool) {
	term, at, e := codec.GetU(b, 0)
	if e != api.OK || len(b)-at > MaxData {
		return raft.Entry{}, false
	}
	return raft.Entry{Term: term, Data: bytes.Clone(b[at:])}, true
}

// changeOf: the change of its last record, behind the kind, and the entries ahead of it; if there are more of these, the first ones are of a change that never was whole.
func changeOf(b []byte, entries []raft.Entry) (change, bool) {
	var all [numbers]uint64
	at := 0
	for i := range numbers {
		n, next, e := codec.GetU(b, at)
		if e != api.OK {
			return change{}, false
		}
		all[i], at = n, next
	}
	count := all[5]
	if at < len(b) || count > uint64(len(entries)) {
		return change{}, false
	}
	c := change{stay: all[4]}
	c.Hard = raft.Hard{Term: all[0], Vote: unfold(all[1])}
	c.Base, c.BaseTerm = all[2], all[3]
	c.Entries = entries[uint64(len(entries))-count:]
	return c, true
}

// replay: the state that a log's records come to; false: they can't be such a log's. Where the log's beginning is missing, since the disk died while a Tidy dropped what is ahead, no change counts up to the first one of which nothing stays.
func replay(records [][]byte, beginning bool) (raft.State, bool) {
	s := raft.State{Hard: raft.Hard{Vote: nobody}}
	known := beginning
	var entries []raft.Entry
	for _, r := range records {
		if len(r) == 0 {
			return raft.State{}, false
		}
		switch kind, b := r[0], r[1:]; kind {
		case anEntry:
			e, ok := entryOf(b)
			if !ok {
				return raft.State{}, false
			}
			entries = append(entries, e)
		case theRest:
			c, ok := changeOf(b, entries)
			if !ok {
				return raft.State{}, false
			}
			entries = nil
			if known = known || c.stay == 0; !known {
				continue
			}
			if s, ok = c.after(s); !ok {
				return raft.State{}, false
			}
		default:
			return raft.State{}, false
		}
	}
	return s, known
}
