package lsm

import (
	"caisson/api"
	"caisson/codec"
	"caisson/mem"
)

// mostBytes is how many bytes all keys and values of a batch may have together: a record of the log has room for them.
const mostBytes = 800000

// entry: a write as a version of its key.
func entry(seq uint64, w api.Write) api.Entry {
	if w.Gone {
		return api.Entry{Key: w.Key, Seq: seq, Kind: api.Delete, Value: w.Value}
	}
	return api.Entry{Key: w.Key, Seq: seq, Kind: api.Put, Value: w.Value}
}

// check: the error of a batch.
func check(batch []api.Write) api.Errno {
	if len(batch) > api.MaxBatch {
		return api.ErrSize
	}
	var all []api.Entry
	size := 0
	for _, w := range batch {
		all = append(all, entry(0, w))
		size += len(w.Key) + len(w.Value)
	}
	if size > mostBytes {
		return api.ErrSize
	}
	return mem.Check(all...)
}

// entries: a batch as versions; of several writes to a key the last one alone.
func entries(seq uint64, batch []api.Write) []api.Entry {
	var out []api.Entry
	places := map[string]int{}
	for _, w := range batch {
		x := entry(seq, w)
		if i, there := places[string(w.Key)]; there {
			out[i] = x
			continue
		}
		places[string(w.Key)] = len(out)
		out = append(out, x)
	}
	return out
}

// encode: the record of a batch: its Seq, and of each entry the kind with the key, and the value.
func encode(seq uint64, list []api.Entry) []byte {
	parts := [][]byte{codec.PutU(seq)}
	for _, x := range list {
		parts = append(parts, append([]byte{x.Kind}, x.Key...), x.Value)
	}
	return codec.Frame(parts...)
}

// decode: the Seq and the entries of the batch whose record this is. (Whether these are in form isn't asked.)
func decode(record []byte) (uint64, []api.Entry, bool) {
	parts, e := codec.Parts(record)
	if e != api.OK || len(parts)%2 == 0 {
		return 0, nil, false
	}
	seq, end, e := codec.GetU(parts[0], 0)
	if e != api.OK || end < len(parts[0]) {
		return 0, nil, false
	}
	var list []api.Entry
	for i := 1; i < len(parts); i += 2 {
		head := parts[i]
		if len(head) == 0 {
			return 0, nil, false
		}
		list = append(list, api.Entry{Key: head[1:], Seq: seq, Kind: head[0], Value: parts[i+1]})
	}
	return seq, list, true
}
