package plan

import (
	"bytes"
	"slices"

	"caisson/api"
	"caisson/codec"
)

const (
	mostKey   = 400   // bytes of a key that is read or written, or of what keys begin with that are read
	mostRead  = 16000 // bytes of all ranges that a request reads
	readShare = 16    // bytes that a range counts, but for its ends
)

// view: what is stored, as far as it is known, and as the ops ahead have left it.
type view struct {
	known  []Known
	reads  []api.Range // of the ops so far
	size   int         // of these
	writes []api.Write // of the ops so far, by rising keys
}

// alone: the range of one key.
func alone(key []byte, excl bool) api.Range {
	short(key)
	return api.Range{From: bytes.Clone(key), To: append(bytes.Clone(key), 0), Excl: excl}
}

// beginning: the range of all keys that begin so.
func beginning(prefix []byte, excl bool) api.Range {
	short(prefix)
	return api.Range{From: bytes.Clone(prefix), To: codec.Next(prefix), Excl: excl}
}

// short ends an op, if a key is too long.
func short(key []byte) {
	if len(key) > mostKey {
		panic(api.ErrSize)
	}
}

// inside: has a range that is read the key? (Each of them has an end.)
func inside(r api.Range, key []byte) bool {
	return codec.Cmp(r.From, key) <= 0 && codec.Cmp(key, r.To) < 0
}

// within: has the range by all keys of r, which is read?
func within(r, by api.Range) bool {
	return codec.Cmp(by.From, r.From) <= 0 && (len(by.To) == 0 || codec.Cmp(r.To, by.To) <= 0)
}

// asStrictly: has the range by all keys of r, and for oneself alone, if that is so?
func asStrictly(r, by api.Range) bool { return within(r, by) && (by.Excl || !r.Excl) }

// read: what is stored in each of these ranges. It ends an op that reads too much, or what isn't known.
func (v *view) read(ranges ...api.Range) [][]api.Pair {
	for _, r := range ranges {
		v.count(r)
	}
	var wanting need
	for _, r := range ranges {
		if !slices.ContainsFunc(v.known, func(k Known) bool { return asStrictly(r, k.Range) }) {
			wanting = append(wanting, r)
		}
	}
	if len(wanting) > 0 {
		panic(wanting)
	}
	var out [][]api.Pair
	for _, r := range ranges {
		out = append(out, v.look(r))
	}
	return out
}

// readOne: as read, of one range.
func (v *view) readOne(r api.Range) []api.Pair { return v.read(r)[0] }

// count: a range is read.
func (v *view) count(r api.Range) {
	if !slices.ContainsFunc(v.reads, func(by api.Range) bool { return asStrictly(r, by) }) {
		v.size += len(r.From) + len(r.To) + readShare
	}
	v.reads = append(v.reads, r)
	if v.size > mostRead {
		panic(api.ErrSize)
	}
}

// look: what is stored in a range that is known, by rising keys.
func (v *view) look(r api.Range) []api.Pair {
	var all []api.Write
	for _, w := range v.writes {
		if inside(r, w.Key) {
			all = append(all, w)
		}
	}
	first := slices.IndexFunc(v.known, func(k Known) bool { return within(r, k.Range) })
	for _, p := range v.known[first].Pairs {
		if inside(r, p.Key) {
			all = append(all, api.Write{Key: p.Key, Value: p.Value})
		}
	}
	slices.SortStableFunc(all, byKey) // of one key the first one counts: so what was written stands ahead of what is known
	var out []api.Pair
	for i, w := range all {
		if !w.Gone && (i == 0 || byKey(all[i-1], w) < 0) {
			out = append(out, api.Pair{Key: w.Key, Value: w.Value})
		}
	}
	return out
}

func byKey(a, b api.Write) int { return codec.Cmp(a.Key, b.Key) }

// write: keys are changed, again perhaps.
func (v *view) write(list ...api.Write) {
	for _, w := range list {
		short(w.Key)
		at, again := slices.BinarySearchFunc(v.writes, w, byKey)
		if again {
			v.writes[at] = w
		} else {
			v.writes = slices.Insert(v.writes, at, w)
		}
	}
}
