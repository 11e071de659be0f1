package catalog

import (
	"bytes"
	"slices"

	"caisson/api"
	"caisson/codec"
	"caisson/row"
)

// Add: with one index more.
func Add(e Entry, x api.Index) (Entry, api.Errno) {
	if f := Check(e); f != api.OK {
		return Entry{}, f
	}
	out := own(e)
	busy := len(e.States) > 0 && out.last().Phase != Public
	out.Indexes = append(out.Indexes, ownIndex(x))
	out.States = append(out.States, State{Phase: Building, Cursor: row.Prefix(e.Table)})
	switch f := row.Check(out.Table); {
	case f != api.OK: // each of its errors is less than ErrBusy
		return Entry{}, f
	case busy:
		return Entry{}, api.ErrBusy
	}
	return out, api.OK
}

// last: the state of the last index; there is one.
func (e Entry) last() *State { return &e.States[len(e.States)-1] }

// Drop: the last index is Undoing.
func Drop(e Entry, name string) (Entry, api.Errno) {
	if f := Check(e); f != api.OK {
		return Entry{}, f
	}
	at := slices.IndexFunc(e.Indexes, func(x api.Index) bool { return x.Name == name })
	switch {
	case at < 0:
		return Entry{}, api.ErrNone
	case at < len(e.Indexes)-1:
		return Entry{}, api.ErrArg
	}
	out := own(e)
	state := out.last()
	if state.Phase == Public {
		state.Cursor = codec.Next(row.Prefix(e.Table))
	}
	state.Phase = Undoing
	return out, api.OK
}

// Build: the last index takes rows.
func Build(e Entry, rows []api.Pair, last bool, there ...api.Pair) (Entry, []api.Write, api.Errno) {
	entries, f := lastEntries(e, Building, rows)
	if f != api.OK {
		return Entry{}, nil, f
	}
	out := own(e)
	state := out.last()
	switch {
	case len(rows) > 0 && codec.Cmp(rows[0].Key, state.Cursor) < 0:
		return Entry{}, nil, api.ErrForm
	case twice(entries) || taken(entries, there):
		state.Phase = Undoing
		return out, nil, api.OK
	case last:
		*state = State{Phase: Public}
	case len(rows) > 0:
		state.Cursor = append(bytes.Clone(rows[len(rows)-1].Key), 0)
	}
	var writes []api.Write
	for _, p := range entries {
		writes = append(writes, api.Write{Key: p.Key, Value: p.Value})
	}
	return out, writes, api.OK
}

// lastEntries: the entries of rows in the last index, which is in this phase; sorted. The errors of Check; ErrArg: it isn't in the phase; ErrForm: as Expected.
func lastEntries(e Entry, phase int, rows []api.Pair) ([]api.Pair, api.Errno) {
	if f := Check(e); f != api.OK {
		return nil, f
	}
	if len(e.States) == 0 || e.last().Phase != phase {
		return nil, api.ErrArg
	}
	list, f := valuesOf(e.Table, rows)
	if f != api.OK {
		return nil, f
	}
	var out []api.Pair
	for _, values := range list {
		all, f := row.Entries(e.Table, values...)
		if f != api.OK {
			return nil, f
		}
		out = append(out, all[len(all)-1])
	}
	sortPairs(out)
	return out, api.OK
}

// taken: has an entry the key of a pair that is there with another value?
func taken(entries, there []api.Pair) bool {
	values := map[string][]byte{}
	for _, p := range slices.Backward(there) { // of several with one key the first one stays
		values[string(p.Key)] = p.Value
	}
	return slices.ContainsFunc(entries, func(p api.Pair) bool {
		value, found := values[string(p.Key)]
		return found && !bytes.Equal(value, p.Value)
	})
}

// Undo: the last index loses rows.
func Undo(e Entry, rows []api.Pair, last bool) (Entry, []api.Write, api.Errno) {
	entries, f := lastEntries(e, Undoing, rows)
	if f != api.OK {
		return Entry{}, nil, f
	}
	out := own(e)
	state := out.last()
	switch {
	case len(rows) > 0 && codec.Cmp(rows[len(rows)-1].Key, state.Cursor) >= 0:
		return Entry{}, nil, api.ErrForm
	case last:
		out = own(without(e))
	case len(rows) > 0:
		state.Cursor = bytes.Clone(rows[0].Key)
	}
	var writes []api.Write
	for i, p := range entries {
		if i == 0 || !bytes.Equal(entries[i-1].Key, p.Key) { // of rows that never had entries together two may have one key
			writes = append(writes, api.Write{Key: p.Key, Gone: true})
		}
	}
	return out, writes, api.OK
}

// without: without the last index.
func without(e Entry) Entry {
	e.Indexes = e.Indexes[:len(e.Indexes)-1]
	e.States = e.States[:len(e.States)-1]
	return e
}
