package manifest

import (
	"caisson/api"
	"caisson/codec"
)

// firstFile is the part in which the first file of an edit's frame stands, behind its head and the numbers in Drop.
const firstFile = 2

// Encode: an edit's bytes.
func Encode(e Edit) []byte {
	head := []byte{0}
	if e.Reset {
		head[0] = 1
	}
	var drop []byte
	for _, n := range e.Drop {
		drop = append(drop, codec.PutU(n)...)
	}
	parts := [][]byte{append(head, codec.PutU(e.Seq)...), drop}
	for _, f := range e.Add {
		parts = append(parts, encodeFile(f))
	}
	return codec.Frame(parts...)
}

// encodeFile: the part of a file.
func encodeFile(f File) []byte {
	var out []byte
	for _, n := range []uint64{f.Num, uint64(f.Level), uint64(f.Count), uint64(f.Size)} {
		out = append(out, codec.PutU(n)...)
	}
	out = append(out, codec.OrdText(f.First)...)
	return append(out, codec.OrdText(f.Last)...)
}

// Decode: the edit whose bytes these are.
func Decode(b []byte) (Edit, api.Errno) {
	parts, err := codec.Parts(b)
	if err != api.OK {
		return Edit{}, err
	}
	if len(parts) < firstFile || len(parts[0]) == 0 || parts[0][0] > 1 {
		return Edit{}, api.ErrForm
	}
	e := Edit{Reset: parts[0][0] == 1}
	head := reader{b: parts[0], at: 1}
	e.Seq = head.number()
	err = head.end()
	if err == api.OK {
		e.Drop, err = decodeDrop(parts[1])
	}
	for _, part := range parts[firstFile:] {
		if err != api.OK {
			break
		}
		var f File
		f, err = decodeFile(part)
		e.Add = append(e.Add, f)
	}
	if err != api.OK {
		return Edit{}, err
	}
	return e, api.OK
}

// decodeDrop: the numbers of the part of those in Drop.
func decodeDrop(part []byte) ([]uint64, api.Errno) {
	r := reader{b: part}
	var out []uint64
	for r.more() {
		out = append(out, r.number())
	}
	return out, r.end()
}

// decodeFile: the file of a part.
func decodeFile(part []byte) (File, api.Errno) {
	r := reader{b: part}
	var f File
	f.Num = r.number()
	f.Level = int(r.number()) // what is too great for an int was below 0
	f.Count = int(r.number())
	f.Size = int(r.number())
	f.First = r.text()
	f.Last = r.text()
	return f, r.end()
}

// reader reads what stands one behind the other in a part, up to the first thing that is wrong.
type reader struct {
	b   []byte
	at  int
	err api.Errno
}

// more: is there something left to be read?
func (r *reader) more() bool { return r.err == api.OK && r.at < len(r.b) }

// number: the next number; behind an error 0.
func (r *reader) number() uint64 {
	if r.err != api.OK {
		return 0
	}
	n, next, e := codec.GetU(r.b, r.at)
	r.at, r.err = next, e
	return n
}

// text: the next OrdText; behind an error none.
func (r *reader) text() []byte {
	if r.err != api.OK {
		return nil
	}
	b, next, e := codec.GetOrdText(r.b, r.at)
	r.at, r.err = next, e
	return b
}

// end: the error of the first thing that was wrong; it is wrong, too, if something is left.
func (r *reader) end() api.Errno {
	if r.more() {
		return api.ErrForm
	}
	return r.err
}
