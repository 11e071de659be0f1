package plan

import (
	"caisson/api"
	"caisson/codec"
)

// What an op of some kind uses.
const (
	usesDef = 1 << iota
	usesTable
	usesName
	usesIndex
	usesCells
	usesMost
)

// uses: what an op of this kind uses.
func uses(kind int) int {
	switch kind {
	case Create:
		return usesDef
	case Put, Remove, Get, Expect:
		return usesTable | usesCells
	case Find:
		return usesTable | usesName | usesCells | usesMost
	case List, Step:
		return usesTable | usesMost
	case AddIndex:
		return usesTable | usesIndex
	case DropIndex:
		return usesTable | usesName
	}
	return 0
}

// Encode: a request's bytes.
func Encode(ops []Op) []byte {
	var w writer
	putList(&w, ops, w.op)
	return w.b
}

// Decode: the request of bytes.
func Decode(b []byte) ([]Op, api.Errno) {
	r := reader{b: b}
	ops := getList(&r, r.op)
	if e := r.end(); e != api.OK {
		return nil, e
	}
	return ops, api.OK
}

// Bytes: a reply's.
func (r Reply) Bytes() []byte {
	var w writer
	w.number(int(r.Err))
	w.number(r.At)
	putList(&w, r.Rows, w.rows)
	return w.b
}

// Read: the reply of bytes.
func Read(b []byte) (Reply, api.Errno) {
	r := reader{b: b}
	reply := Reply{Err: api.Errno(r.number()), At: r.number(), Rows: getList(&r, r.rows)}
	if e := r.end(); e != api.OK {
		return Reply{}, e
	}
	return reply, api.OK
}

// writer puts one thing behind the other.
type writer struct{ b []byte }

func (w *writer) number(n int) { w.b = append(w.b, codec.PutU(uint64(n))...) }

func (w *writer) text(s string) {
	w.number(len(s))
	w.b = append(w.b, s...)
}

func (w *writer) bytes(b []byte) {
	w.number(len(b))
	w.b = append(w.b, b...)
}

func (w *writer) flag(is bool) {
	n := 0
	if is {
		n = 1
	}
	w.number(n)
}

// putList: how many there are, and each.
func putList[T any](w *writer, list []T, put func(T)) {
	w.number(len(list))
	for _, x := range list {
		put(x)
	}
}

func (w *writer) op(op Op) {
	w.number(op.Kind)
	used := uses(op.Kind)
	if used&usesDef > 0 {
		w.table(op.Def)
	}
	if used&usesTable > 0 {
		w.text(op.Table)
	}
	if used&usesName > 0 {
		w.text(op.Name)
	}
	if used&usesIndex > 0 {
		w.index(op.Index)
	}
	if used&usesCells > 0 {
		putList(w, op.Cells, w.cell)
	}
	if used&usesMost > 0 {
		w.number(op.Most)
	}
}

func (w *writer) table(t api.Table) {
	w.number(t.Id)
	w.text(t.Name)
	putList(w, t.Cols, w.col)
	w.number(t.Keys)
	putList(w, t.Indexes, w.index)
}

func (w *writer) col(c api.Col) {
	w.text(c.Name)
	w.number(c.Kind)
	w.flag(c.Null)
}

func (w *writer) index(x api.Index) {
	w.text(x.Name)
	putList(w, x.Cols, w.number)
	w.flag(x.Unique)
}

func (w *writer) rows(list [][]api.Cell) { putList(w, list, w.row) }

func (w *writer) row(cells []api.Cell) { putList(w, cells, w.cell) }

// cell: all fields, as one that isn't in form comes back, too. One that is in form has 9 bytes more than its Text and Data, or 14 at most.
func (w *writer) cell(c api.Cell) {
	w.number(c.Kind)
	w.flag(c.Bool)
	w.b = append(w.b, codec.PutU(uint64(c.Int))...)
	w.text(c.Text)
	w.bytes(c.Data)
}

// reader takes one thing behind the other. Behind the first thing that is wrong all that it takes is zero.
type reader struct {
	b  []byte
	at int
	e  api.Errno
}

// end: what was wrong, or that there is something behind the last thing.
func (r *reader) end() api.Errno {
	if r.e == api.OK && r.at < len(r.b) {
		return api.ErrForm
	}
	return r.e
}

func (r *reader) long() uint64 {
	if r.e != api.OK {
		return 0
	}
	n, next, e := codec.GetU(r.b, r.at)
	if e != api.OK {
		r.e = e
		return 0
	}
	r.at = next
	return n
}

func (r *reader) number() int { return int(r.long()) }

// count: how many bytes or things come. Each thing has a byte at least, so more than there are bytes can't come.
func (r *reader) count() int {
	n := r.long()
	if n > uint64(len(r.b)-r.at) {
		r.e = api.ErrEnd
		return 0
	}
	return int(n)
}

func (r *reader) bytes() []byte {
	n := r.count()
	r.at += n
	return append([]byte(nil), r.b[r.at-n:r.at]...)
}

func (r *reader) text() string { return string(r.bytes()) }

func (r *reader) flag() bool {
	n := r.long()
	if n > 1 {
		r.e = api.ErrForm
	}
	return n == 1
}

// getList: as many things as are told ahead of them.
func getList[T any](r *reader, get func() T) []T {
	var out []T
	for range r.count() {
		x := get()
		if r.e != api.OK {
			return nil
		}
		out = append(out, x)
	}
	return out
}

func (r *reader) op() Op {
	op := Op{Kind: r.number()}
	used := uses(op.Kind)
	if used&usesDef > 0 {
		op.Def = r.table()
	}
	if used&usesTable > 0 {
		op.Table = r.text()
	}
	if used&usesName > 0 {
		op.Name = r.text()
	}
	if used&usesIndex > 0 {
		op.Index = r.index()
	}
	if used&usesCells > 0 {
		op.Cells = getList(r, r.cell)
	}
	if used&usesMost > 0 {
		op.Most = r.number()
	}
	return op
}

func (r *reader) table() api.Table {
	return api.Table{Id: r.number(), Name: r.text(), Cols: getList(r, r.col), Keys: r.number(), Indexes: getList(r, r.index)}
}

func (r *reader) col() api.Col {
	return api.Col{Name: r.text(), Kind: r.number(), Null: r.flag()}
}

func (r *reader) index() api.Index {
	return api.Index{Name: r.text(), Cols: getList(r, r.number), Unique: r.flag()}
}

func (r *reader) rows() [][]api.Cell { return getList(r, r.row) }

func (r *reader) row() []api.Cell { return getList(r, r.cell) }

func (r *reader) cell() api.Cell {
	return api.Cell{Kind: r.number(), Bool: r.flag(), Int: int64(r.long()), Text: r.text(), Data: r.bytes()}
}
