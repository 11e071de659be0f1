package shard

import (
	"bytes"

	"caisson/api"
	"caisson/codec"
)

// Encode: a command's bytes: its kind, and a frame of what that uses.
func Encode(c Cmd) []byte {
	parts := [][]byte{codec.PutU(c.Txn.Session), codec.PutU(c.Txn.Seq)}
	switch c.Kind {
	case Lock:
		for _, r := range c.Ranges {
			parts = append(parts, codec.Frame(r.From, r.To, flag(r.Excl)))
		}
	case Decide:
		parts = append(parts, Record{Commit: c.Commit, Ts: c.Ts, Writes: c.Writes, Reply: c.Reply}.bytes())
	case Finish:
		parts = append(parts, Record{Commit: c.Commit, Ts: c.Ts, Writes: c.Writes}.bytes())
	default:
		return []byte{0} // no command's, but not none either, which is the command to do nothing
	}
	return append([]byte{byte(c.Kind)}, codec.Frame(parts...)...)
}

// Decode: the command of bytes.
func Decode(b []byte) (Cmd, api.Errno) {
	if len(b) == 0 {
		return Cmd{}, api.ErrEnd
	}
	r := read(b[1:])
	c := Cmd{Kind: int(b[0]), Txn: api.Txn{Session: r.number(), Seq: r.number()}}
	switch c.Kind {
	case Lock:
		for len(*r) > 0 {
			ends := read(r.bytes())
			c.Ranges = append(c.Ranges, api.Range{From: ends.bytes(), To: ends.bytes(), Excl: ends.flag()})
		}
	case Decide, Finish:
		x := recordOf(r.bytes())
		c.Commit, c.Ts, c.Writes, c.Reply = x.Commit, x.Ts, x.Writes, x.Reply
	default:
		return Cmd{}, api.ErrForm
	}
	if !bytes.Equal(Encode(c), b) {
		return Cmd{}, api.ErrForm
	}
	return c, api.OK
}

// bytes: a record as bytes.
func (x Record) bytes() []byte {
	parts := [][]byte{flag(x.Commit), codec.PutU(x.Ts), x.Reply}
	for _, w := range x.Writes {
		parts = append(parts, codec.Frame(w.Key, w.Value, flag(w.Gone)))
	}
	return codec.Frame(parts...)
}

// recordOf: the record of bytes; if they are no record's, one that has other bytes.
func recordOf(b []byte) Record {
	r := read(b)
	x := Record{Commit: r.flag(), Ts: r.number(), Reply: r.bytes()}
	for len(*r) > 0 {
		w := read(r.bytes())
		x.Writes = append(x.Writes, api.Write{Key: w.bytes(), Value: w.bytes(), Gone: w.flag()})
	}
	return x
}

// flag: a bool as a part.
func flag(b bool) []byte {
	if b {
		return []byte{1}
	}
	return nil
}

// reader takes the parts of a frame, one behind the other. What isn't as it must be is taken as it comes: it shows when the bytes are made again of what was taken, and aren't the same.
type reader [][]byte

// read: a reader of the parts whose frame b is.
func read(b []byte) *reader {
	parts, _ := codec.Parts(b)
	r := reader(parts)
	return &r
}

// bytes: the next part.
func (r *reader) bytes() []byte {
	if len(*r) == 0 {
		return nil
	}
	out := (*r)[0]
	*r = (*r)[1:]
	return out
}

// number: the next part as a number.
func (r *reader) number() uint64 {
	n, _, _ := codec.GetU(r.bytes(), 0)
	return n
}

// flag: the next part as a bool.
func (r *reader) flag() bool { return len(r.bytes()) > 0 }
