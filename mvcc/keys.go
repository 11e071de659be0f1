package mvcc

import (
	"math"

	"caisson/api"
	"caisson/codec"
)

// The first bytes of the engine's keys.
const (
	versionMark = 117
	noteMark    = 109
)

// The first bytes of versions' values.
const (
	goneMark  = 0
	valueMark = 1
)

// lowName is the name under which Low lies. No note has it, as it is longer than theirs.
const lowName = "the lowest timestamp"

// begin: the beginning of the engine's keys under which a key's versions lie.
func begin(key []byte) []byte { return append([]byte{versionMark}, codec.OrdText(key)...) }

// place: under which key of the engine a version lies. The newest one comes first.
func place(key []byte, ts uint64) []byte {
	return append(begin(key), codec.OrdU(math.MaxUint64-ts)...)
}

// under: under which key of the engine something with a name lies.
func under(name []byte) []byte { return append([]byte{noteMark}, name...) }

// stored: what a version's value is for the engine.
func stored(w api.Write) []byte {
	if w.Gone {
		return []byte{goneMark}
	}
	return append([]byte{valueMark}, w.Value...)
}

// version: the version that lies in the engine as this pair, if it is one.
func version(p api.Pair) (Version, bool) {
	key, at, e := codec.GetOrdText(p.Key, 1)
	if e != api.OK {
		return Version{}, false
	}
	back, end, e := codec.GetOrdU(p.Key, at)
	if e != api.OK || end < len(p.Key) || len(p.Value) == 0 {
		return Version{}, false
	}
	v := Version{Key: key, Ts: math.MaxUint64 - back}
	switch {
	case p.Value[0] == valueMark:
		v.Value = p.Value[1:]
	case p.Value[0] == goneMark && len(p.Value) == 1:
		v.Gone = true
	default:
		return Version{}, false
	}
	return v, true
}
