package plan

import (
	"bytes"
	"cmp"
	"fmt"
	"maps"
	"slices"
	"strings"
	"unicode/utf8"

	"caisson/api"
	"caisson/catalog"
	"caisson/cell"
	"caisson/row"
)

// plain is what is stored, by the words of the document: tables with their rows, each with all its values.
type plain map[string]*plainTable

// plainTable is a table: all its indexes are Public but the last one, which is in this phase.
type plainTable struct {
	api.Table
	phase  int
	cursor string
	rows   map[string][]any
}

// clone is another one like it.
func (p plain) clone() plain {
	out := plain{}
	for name, t := range p {
		x := *t
		x.rows = maps.Clone(t.rows)
		out[name] = &x
	}
	return out
}

// has: has its i-th index the entry of the row with this key?
func (t *plainTable) has(i int, key string) bool {
	return i < len(t.Indexes)-1 || t.phase == catalog.Public || key < t.cursor
}

// columns are a row's values of an index.
func (t *plainTable) columns(i int, values []any) []any {
	var out []any
	for _, c := range t.Indexes[i].Cols {
		out = append(out, values[c])
	}
	return out
}

// entryKey is the key of a row's entry in an index.
func (t *plainTable) entryKey(i int, key string, values []any) string {
	k, _ := cell.Key(t.columns(i, values)...)
	out := string([]byte{105, byte(t.Id), byte(i)}) + string(k)
	if !t.Indexes[i].Unique {
		out += key
	}
	return out
}

// stored is what a row is stored as.
func (t *plainTable) stored(key string, values []any) map[string]string {
	out := map[string]string{}
	if values == nil {
		return out
	}
	b, _ := cell.Encode(values...)
	out[key] = string(b)
	for i := range t.Indexes {
		if t.has(i, key) {
			out[t.entryKey(i, key, values)] = key
		}
	}
	return out
}

// keys are those of the rows, in their order.
func (t *plainTable) keys() []string { return slices.Sorted(maps.Keys(t.rows)) }

// stored is all that is there.
func (p plain) stored() map[string]string {
	out := map[string]string{}
	for name, t := range p {
		e := catalog.Entry{Table: t.Table, States: make([]catalog.State, len(t.Indexes))}
		if t.phase != catalog.Public {
			e.States[len(e.States)-1] = catalog.State{Phase: t.phase, Cursor: []byte(t.cursor)}
		}
		out[string(catalog.Key(name))] = string(catalog.Encode(e))
		for key, values := range t.rows {
			maps.Copy(out, t.stored(key, values))
		}
	}
	return out
}

// differ are the keys that two stores have with unlike values, or one of them alone; in their order.
func differ(a, b map[string]string) []string {
	out := map[string]string{}
	for _, pair := range [][2]map[string]string{{a, b}, {b, a}} {
		for key, value := range pair[0] {
			if other, there := pair[1][key]; !there || other != value {
				out[key] = ""
			}
		}
	}
	return slices.Sorted(maps.Keys(out))
}

// turn is a request that is done: what it reads, step by step, and which keys it writes.
type turn struct {
	plain
	steps   [][]api.Range
	size    int
	touched map[string]string
}

// one and all are the ranges of a key, and of all keys that begin so.
func one(key string, excl bool) api.Range {
	return api.Range{From: []byte(key), To: []byte(key + "\x00"), Excl: excl}
}

func all(prefix string, excl bool) api.Range {
	to := []byte(prefix)
	for to[len(to)-1] == 255 {
		to = to[:len(to)-1]
	}
	to[len(to)-1]++
	return api.Range{From: []byte(prefix), To: to, Excl: excl}
}

// isIn: has the range by all keys of r, as strictly?
func isIn(r, by api.Range) bool {
	return bytes.Compare(by.From, r.From) <= 0 && (len(by.To) == 0 || bytes.Compare(r.To, by.To) <= 0) && (by.Excl || !r.Excl)
}

// read is a step of what is read.
func (x *turn) read(ranges ...api.Range) {
	for _, r := range ranges {
		if len(r.From) > 400 {
			panic(api.ErrSize)
		}
	}
	ahead := slices.Concat(x.steps...)
	for _, r := range ranges {
		if !slices.ContainsFunc(ahead, func(by api.Range) bool { return isIn(r, by) }) {
			x.size += len(r.From) + len(r.To) + 16
		}
		ahead = append(ahead, r)
	}
	if x.size > 16000 {
		panic(api.ErrSize)
	}
	x.steps = append(x.steps, ranges)
}

// touch: all keys in which the two differ are written.
func (x *turn) touch(a, b map[string]string) {
	for _, key := range differ(a, b) {
		x.touched[key] = ""
	}
}

// wants: an op fails, if something is wrong.
func wants(right bool, e api.Errno) {
	if !right {
		panic(e)
	}
}

// run is what a request comes to, if all is known. What was there ahead of it stays as it was.
func (p plain) run(ops []Op) (x *turn, reply Reply) {
	x = &turn{plain: p.clone(), touched: map[string]string{}}
	at := 0
	defer func() {
		if e, failed := recover().(api.Errno); failed {
			x.plain, x.touched, reply = p.clone(), nil, Reply{Err: e, At: at}
		}
	}()
	wants(len(ops) <= 16, api.ErrForm)
	for i, op := range ops {
		at = i
		reply.Rows = append(reply.Rows, x.do(op))
	}
	size := 0
	there := x.stored()
	for key := range x.touched {
		size += len(key) + len(there[key])
	}
	wants(len(x.touched) <= 90 && size <= 6000 && len(reply.Bytes()) <= 4000, api.ErrSize)
	return x, reply
}

// writes are those that the request comes to.
func (x *turn) writes() []api.Write {
	var out []api.Write
	there := x.stored()
	for _, key := range slices.Sorted(maps.Keys(x.touched)) {
		value, is := there[key]
		out = append(out, api.Write{Key: []byte(key), Value: []byte(value), Gone: !is})
	}
	return out
}

// table is the table of the op.
func (x *turn) table(op Op) *plainTable {
	wants(len(op.Table) <= 16, api.ErrName)
	x.read(one(string(catalog.Key(op.Table)), op.Kind == AddIndex || op.Kind == DropIndex || op.Kind == Step))
	t := x.plain[op.Table]
	wants(t != nil, api.ErrName)
	return t
}

// values are those of cells.
func values(cells []api.Cell) []any {
	var out []any
	for _, c := range cells {
		v, e := cell.Of(c)
		wants(e == 0, api.ErrForm)
		out = append(out, v)
	}
	return out
}

// cells are those of values.
func cells(values []any) []api.Cell {
	var out []api.Cell
	for _, v := range values {
		c, _ := cell.Cell(v)
		out = append(out, c)
	}
	return out
}

// right is an error that must be none.
func right(e api.Errno) { wants(e == 0, e) }

// do does one op.
func (x *turn) do(op Op) [][]api.Cell {
	switch op.Kind {
	case Create:
		x.create(op.Def)
	case Put, Remove, Get, Expect:
		return x.ofRow(op)
	case Find:
		return x.find(op)
	case List:
		t := x.table(op)
		wants(op.Most >= 1 && op.Most <= 64, api.ErrArg)
		x.read(all(string(row.Prefix(t.Table)), false))
		var out [][]api.Cell
		for i, key := range t.keys() {
			if i < op.Most {
				out = append(out, cells(t.rows[key]))
			}
		}
		return out
	case AddIndex, DropIndex, Step:
		x.ofIndex(op)
	default:
		panic(api.ErrForm)
	}
	return nil
}

func (x *turn) create(def api.Table) {
	right(row.Check(def))
	x.read(api.Range{From: []byte("c"), To: []byte("d"), Excl: true})
	for name, t := range x.plain {
		wants(name != def.Name && t.Id != def.Id, api.ErrThere)
	}
	wants(len(x.plain) < 8, api.ErrSize)
	x.plain[def.Name] = &plainTable{Table: def, rows: map[string][]any{}}
	x.touched[string(catalog.Key(def.Name))] = ""
}

// ofRow is an op of a row.
func (x *turn) ofRow(op Op) [][]api.Cell {
	t := x.table(op)
	list := values(op.Cells)
	if op.Kind == Put || op.Kind == Expect && len(list) == len(t.Cols) {
		right(row.Fits(t.Table, list...))
	}
	wants(op.Kind == Put || op.Kind == Expect || len(list) == t.Keys, api.ErrArg)
	k, e := row.Key(t.Table, list...)
	right(e)
	key := string(k)
	x.read(one(key, op.Kind == Put || op.Kind == Remove))
	old := t.rows[key]
	if op.Kind == Get && old != nil {
		return [][]api.Cell{cells(old)}
	}
	if op.Kind == Get {
		return nil
	}
	if op.Kind == Expect {
		if len(list) < len(t.Cols) {
			list = nil
		}
		wants(len(differ(t.stored(key, old), t.stored(key, list))) == 0, api.ErrGuard)
		return nil
	}
	if op.Kind == Remove {
		wants(old != nil, api.ErrNone)
		list = nil
	}
	written := differ(t.stored(key, old), t.stored(key, list))
	var ranges []api.Range
	for _, k := range written {
		if k != key {
			ranges = append(ranges, one(k, true))
		}
	}
	x.read(ranges...)
	for i := range t.Indexes {
		if list != nil && t.Indexes[i].Unique && t.has(i, key) && slices.Contains(written, t.entryKey(i, key, list)) {
			for other, its := range t.rows {
				wants(other == key || !t.has(i, other) || t.entryKey(i, other, its) != t.entryKey(i, key, list), api.ErrUnique)
			}
		}
	}
	for _, k := range written {
		x.touched[k] = ""
	}
	if delete(t.rows, key); list != nil {
		t.rows[key] = list
	}
	return nil
}

// misfits is the least error of a value in a column.
func misfits(c api.Col, v any) api.Errno {
	kind, _ := cell.Kind(v)
	s, _ := v.(string)
	b, _ := v.([]byte)
	switch {
	case utf8.RuneCountInString(s) > 200 || len(b) > 200:
		return api.ErrSize
	case !utf8.ValidString(s):
		return api.ErrForm
	case kind != c.Kind && (kind != 0 || !c.Null):
		return api.ErrType
	}
	return 0
}

func (x *turn) find(op Op) [][]api.Cell {
	t := x.table(op)
	wants(op.Most >= 1 && op.Most <= 64, api.ErrArg)
	i := slices.IndexFunc(t.Indexes, func(x api.Index) bool { return x.Name == op.Name })
	wants(i >= 0, api.ErrNone)
	wants(i < len(t.Indexes)-1 || t.phase == catalog.Public, api.ErrBusy)
	wants(len(op.Cells) <= len(t.Indexes[i].Cols), api.ErrArg)
	list := values(op.Cells)
	var wrong []api.Errno
	for j, v := range list {
		if e := misfits(t.Cols[t.Indexes[i].Cols[j]], v); e != 0 {
			wrong = append(wrong, e)
		}
	}
	if len(wrong) > 0 {
		panic(slices.Min(wrong))
	}
	first, _ := cell.Key(list...)
	x.read(all(string([]byte{105, byte(t.Id), byte(i)})+string(first), false))
	found := t.keys()
	order := func(a, b []any) int {
		for j := range min(len(a), len(b)) {
			if n, _ := cell.Compare(a[j], b[j]); n != 0 {
				return n
			}
		}
		return 0
	}
	found = slices.DeleteFunc(found, func(key string) bool { return order(list, t.columns(i, t.rows[key])) != 0 })
	slices.SortStableFunc(found, func(a, b string) int {
		return cmp.Or(order(t.columns(i, t.rows[a]), t.columns(i, t.rows[b])), cmp.Compare(a, b))
	})
	found = found[:min(op.Most, len(found))]
	var ranges []api.Range
	var out [][]api.Cell
	for _, key := range found {
		ranges = append(ranges, one(key, false))
		out = append(out, cells(t.rows[key]))
	}
	x.read(ranges...)
	return out
}

// ofIndex is an op of a table's indexes.
func (x *turn) ofIndex(op Op) {
	t := x.table(op)
	n := len(t.Indexes)
	switch op.Kind {
	case AddIndex:
		with := t.Table
		with.Indexes = append(slices.Clone(with.Indexes), op.Index)
		right(row.Check(with))
		wants(t.phase == catalog.Public, api.ErrBusy)
		t.Table, t.phase, t.cursor = with, catalog.Building, string(row.Prefix(with))
	case DropIndex:
		i := slices.IndexFunc(t.Indexes, func(x api.Index) bool { return x.Name == op.Name })
		wants(i >= 0, api.ErrNone)
		wants(i == n-1, api.ErrArg)
		if t.phase == catalog.Public {
			t.cursor = string(all(string(row.Prefix(t.Table)), false).To)
		}
		t.phase = catalog.Undoing
	case Step:
		wants(op.Most >= 1 && op.Most <= 64, api.ErrArg)
		wants(t.phase != catalog.Public, api.ErrNone)
		x.read(all(string(row.Prefix(t.Table)), false))
		x.read(all(string([]byte{105, byte(t.Id), byte(n - 1)}), true))
		ahead := x.stored()
		t.step(op.Most)
		x.touch(ahead, x.stored())
	}
	x.touched[string(catalog.Key(t.Name))] = ""
}

// step builds or undoes so many rows more.
func (t *plainTable) step(most int) {
	keys := t.keys()
	at, _ := slices.BinarySearch(keys, t.cursor)
	last := len(t.Indexes) - 1
	if t.phase == catalog.Undoing {
		from := max(0, at-most)
		if from < at {
			t.cursor = keys[from]
		}
		if from == 0 {
			t.Indexes = slices.Clone(t.Indexes[:last])
			t.phase, t.cursor = catalog.Public, ""
		}
		return
	}
	to := min(len(keys), at+most)
	taken := map[string]string{}
	for i, key := range keys[:to] {
		k := t.entryKey(last, key, t.rows[key])
		if _, there := taken[k]; there || i >= at && len(k) > 400 {
			t.phase = catalog.Undoing
			return
		}
		taken[k] = ""
	}
	if to > at {
		t.cursor = keys[to-1] + "\x00"
	}
	if to == len(keys) {
		t.phase, t.cursor = catalog.Public, ""
	}
}

// told is a request in words.
func told(ops []Op) string {
	var out []string
	for _, op := range ops {
		said := fmt.Sprintf("%d %.20q %.20q %d:", op.Kind, op.Table, op.Name, op.Most)
		for _, c := range op.Cells {
			said += fmt.Sprintf(" {%d %v %d %.9q %d, %.5x %d}", c.Kind, c.Bool, c.Int, c.Text, len(c.Text), c.Data, len(c.Data))
		}
		out = append(out, fmt.Sprint(said, op.Index, op.Def))
	}
	return fmt.Sprintf("%.3000v", strings.Join(out, "; "))
}
