package lock

import (
	"slices"

	"caisson/api"
	"caisson/codec"
)

// Encode: the table as bytes: the places of those that wait, in their order, and then each owner.
func (t *Table) Encode() []byte {
	var line []byte
	for _, o := range t.queue() {
		line = append(line, codec.PutU(uint64(slices.Index(t.owners, o)))...)
	}
	parts := [][]byte{line}
	for _, o := range t.owners {
		parts = append(parts, codec.Frame(codec.PutU(o.Session), codec.PutU(o.Seq), encode(o.held), encode(o.asked)))
	}
	return codec.Frame(parts...)
}

// encode: ranges as bytes.
func encode(ranges []api.Range) []byte {
	var parts [][]byte
	for _, r := range ranges {
		var excl []byte
		if r.Excl {
			excl = []byte{1}
		}
		parts = append(parts, codec.Frame(r.From, r.To, excl))
	}
	return codec.Frame(parts...)
}

// Decode: the table of bytes.
func Decode(b []byte) (*Table, api.Errno) {
	parts, e := codec.Parts(b)
	if e != api.OK {
		return nil, e
	}
	if len(parts) == 0 {
		return nil, api.ErrEnd
	}
	t := &Table{}
	for _, p := range parts[1:] {
		o, e := decodeOwner(p)
		if e != api.OK {
			return nil, e
		}
		t.owners = append(t.owners, o)
	}
	if e := t.lineUp(parts[0]); e != api.OK {
		return nil, e
	}
	if !t.right() {
		return nil, api.ErrForm
	}
	return t, api.OK
}

// split: the parts whose frame b is, if they are so many.
func split(b []byte, count int) ([][]byte, api.Errno) {
	parts, e := codec.Parts(b)
	switch {
	case e != api.OK:
		return nil, e
	case len(parts) != count:
		return nil, api.ErrForm
	}
	return parts, api.OK
}

// decodeOwner: an owner, who isn't in the queue yet.
func decodeOwner(b []byte) (*owner, api.Errno) {
	parts, e := split(b, 4)
	if e != api.OK {
		return nil, e
	}
	var numbers [2]uint64
	for i := range numbers {
		n, end, e := codec.GetU(parts[i], 0)
		if e != api.OK {
			return nil, e
		}
		if end < len(parts[i]) {
			return nil, api.ErrForm
		}
		numbers[i] = n
	}
	held, e := decode(parts[2])
	if e != api.OK {
		return nil, e
	}
	asked, e := decode(parts[3])
	if e != api.OK {
		return nil, e
	}
	if len(asked) > mostRanges {
		return nil, api.ErrForm
	}
	return &owner{Txn: api.Txn{Session: numbers[0], Seq: numbers[1]}, held: held, asked: asked}, api.OK
}

// decode: ranges, in form.
func decode(b []byte) ([]api.Range, api.Errno) {
	parts, e := codec.Parts(b)
	if e != api.OK {
		return nil, e
	}
	var out []api.Range
	for _, p := range parts {
		ends, e := split(p, 3)
		if e != api.OK {
			return nil, e
		}
		excl := codec.Cmp(ends[2], []byte{1}) == 0
		r := api.Range{From: ends[0], To: ends[1], Excl: excl}
		if len(ends[2]) > 0 && !excl || check([]api.Range{r}) != api.OK {
			return nil, api.ErrForm
		}
		out = append(out, r)
	}
	return out, api.OK
}

// lineUp: those at these places of the owners wait, in this order.
func (t *Table) lineUp(line []byte) api.Errno {
	for at := 0; at < len(line); {
		place, next, e := codec.GetU(line, at)
		if e != api.OK {
			return e
		}
		if place >= uint64(len(t.owners)) || t.owners[place].turn > 0 {
			return api.ErrForm
		}
		t.turns++
		t.owners[place].turn = t.turns
		at = next
	}
	return api.OK
}

// right: can a table be so?
func (t *Table) right() bool {
	for i, o := range t.owners {
		ahead := t.owners[:i]
		same := func(other *owner) bool { return other.Txn == o.Txn || clash(other.held, o.held) }
		if (len(o.asked) > 0) != (o.turn > 0) || o.turn > 0 && !t.waits(o) || slices.ContainsFunc(ahead, same) {
			return false
		}
	}
	return t.ends()
}

// ends: does nobody wait in a circle? Then there is always one in the queue that waits for nobody else there, and when those are taken away, all are at last.
func (t *Table) ends() bool {
	left := t.queue()
	for taken := true; taken; {
		taken = false
		for i := 0; i < len(left); {
			if slices.ContainsFunc(left, left[i].waitsFor) {
				i++
				continue
			}
			left = slices.Delete(left, i, i+1)
			taken = true
		}
	}
	return len(left) == 0
}
