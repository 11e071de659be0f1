package plan

import (
	"bytes"
	"slices"

	"caisson/api"
	"caisson/catalog"
	"caisson/cell"
	"caisson/codec"
	"caisson/row"
)

// entryMark is the first byte of the keys of all tables' entries.
const entryMark = 99

// do: an op is done; the rows that it answers.
func (v *view) do(op Op) [][]api.Cell {
	switch op.Kind {
	case Create:
		v.create(op.Def)
	case Put:
		v.put(op)
	case Remove:
		v.remove(op)
	case Get:
		return v.get(op)
	case Find:
		return v.find(op)
	case List:
		return v.list(op)
	case AddIndex:
		v.addIndex(op)
	case DropIndex:
		v.dropIndex(op)
	case Step:
		v.step(op)
	case Expect:
		v.expect(op)
	default:
		panic(api.ErrForm)
	}
	return nil
}

func (v *view) create(def api.Table) {
	e, f := catalog.New(def)
	hold(f)
	tables := 0
	for _, p := range v.readOne(api.Range{From: []byte{entryMark}, To: []byte{entryMark + 1}, Excl: true}) {
		other, f := catalog.Decode(p.Value)
		if f != api.OK {
			continue
		}
		if other.Name == e.Name || other.Id == e.Id {
			panic(api.ErrThere)
		}
		tables++
	}
	if tables >= api.MaxTables {
		panic(api.ErrSize)
	}
	v.writeEntry(e)
}

// writeEntry: the entry of a table. (Of a row whose key is too long to have been written the Cursor isn't in form: then the table keeps the entry that it has.)
func (v *view) writeEntry(e catalog.Entry) {
	if catalog.Check(e) != api.OK {
		panic(api.ErrSize)
	}
	v.write(api.Write{Key: catalog.Key(e.Name), Value: catalog.Encode(e)})
}

// table: the entry of the table of that name.
func (v *view) table(name string, excl bool) catalog.Entry {
	if len(name) > api.MaxName {
		panic(api.ErrName)
	}
	for _, p := range v.readOne(alone(catalog.Key(name), excl)) {
		if e, f := catalog.Decode(p.Value); f == api.OK && e.Name == name {
			return e
		}
	}
	panic(api.ErrName)
}

// valuesOf: what cells stand for.
func valuesOf(cells []api.Cell) []any {
	var out []any
	for _, c := range cells {
		value, f := cell.Of(c)
		hold(f)
		out = append(out, value)
	}
	return out
}

// cellsOf: the cells of a row.
func cellsOf(values []any) []api.Cell {
	var out []api.Cell
	for _, value := range values {
		c, f := cell.Cell(value)
		hold(f)
		out = append(out, c)
	}
	return out
}

// rowOf: the row that is stored so.
func rowOf(e catalog.Entry, p api.Pair) []any {
	values, f := row.Row(e.Table, p)
	hold(f)
	return values
}

// stored: the row with this key, if there is one.
func (v *view) stored(e catalog.Entry, key []byte, excl bool) []any {
	for _, p := range v.readOne(alone(key, excl)) {
		return rowOf(e, p)
	}
	return nil
}

func (v *view) put(op Op) {
	e := v.table(op.Table, false)
	values := valuesOf(op.Cells)
	hold(row.Fits(e.Table, values...))
	key, f := row.Key(e.Table, values...)
	hold(f)
	v.change(e, v.stored(e, key, true), values)
}

func (v *view) remove(op Op) {
	e := v.table(op.Table, false)
	old := v.stored(e, keyOf(e, op.Cells), true)
	if len(old) == 0 {
		panic(api.ErrNone)
	}
	v.change(e, old, nil)
}

// keyOf: the key of the row with just these cells as its key.
func keyOf(e catalog.Entry, cells []api.Cell) []byte {
	values := valuesOf(cells)
	if len(values) != e.Keys {
		panic(api.ErrArg)
	}
	key, f := row.Key(e.Table, values...)
	hold(f)
	return key
}

// change: a row, or none, becomes another one with the same key, or none.
func (v *view) change(e catalog.Entry, old, new []any) {
	writes, f := catalog.Changes(e, old, new)
	hold(f)
	var ranges []api.Range
	for _, w := range writes { // the row's key is among them, but that is known by now
		ranges = append(ranges, alone(w.Key, true))
	}
	for i, there := range v.read(ranges...) {
		w := writes[i]
		if !w.Gone && isUnique(e, w.Key) && len(there) > 0 && !bytes.Equal(there[0].Value, w.Value) {
			panic(api.ErrUnique)
		}
	}
	v.write(writes...)
}

// isUnique: is it the key of an entry of a unique index?
func isUnique(e catalog.Entry, key []byte) bool {
	for i, x := range e.Indexes {
		if x.Unique && bytes.HasPrefix(key, row.IndexPrefix(e.Table, i)) {
			return true
		}
	}
	return false
}

func (v *view) get(op Op) [][]api.Cell {
	e := v.table(op.Table, false)
	values := v.stored(e, keyOf(e, op.Cells), false)
	if len(values) == 0 {
		return nil
	}
	return [][]api.Cell{cellsOf(values)}
}

func (v *view) expect(op Op) {
	e := v.table(op.Table, false)
	values := valuesOf(op.Cells)
	key, f := row.Key(e.Table, values...) // of as many values as columns its errors are those of row.Fits
	hold(f)
	wanted := values
	if len(values) < len(e.Cols) {
		wanted = nil
	}
	writes, f := row.Changes(e.Table, v.stored(e, key, false), wanted)
	hold(f)
	if len(writes) > 0 { // it would have to become what is expected
		panic(api.ErrGuard)
	}
}

// few ends an op that asks for a wrong number of rows.
func few(most int) {
	if most < 1 || most > api.MaxRows {
		panic(api.ErrArg)
	}
}

func (v *view) find(op Op) [][]api.Cell {
	e := v.table(op.Table, false)
	few(op.Most)
	at := slices.IndexFunc(e.Indexes, func(x api.Index) bool { return x.Name == op.Name })
	switch {
	case at < 0:
		panic(api.ErrNone)
	case e.States[at].Phase != catalog.Public:
		panic(api.ErrBusy)
	case len(op.Cells) > len(e.Indexes[at].Cols):
		panic(api.ErrArg)
	}
	values := valuesOf(op.Cells)
	hold(row.Fits(e.Table, filled(e.Table, e.Indexes[at].Cols, values)...))
	first, f := cell.Key(values...)
	hold(f)
	entries := v.readOne(beginning(append(row.IndexPrefix(e.Table, at), first...), false))
	var ranges []api.Range
	for _, p := range entries[:min(op.Most, len(entries))] {
		ranges = append(ranges, alone(p.Value, false))
	}
	var out [][]api.Cell
	for i, found := range v.read(ranges...) {
		p := api.Pair{Key: ranges[i].From} // where an entry's row is wanting, it isn't a row either
		if len(found) > 0 {
			p = found[0]
		}
		out = append(out, cellsOf(rowOf(e, p)))
	}
	return out
}

// filled: a row that has these values in these columns, and in each other one a value that fits.
func filled(t api.Table, places []int, values []any) []any {
	var out []any
	for _, c := range t.Cols {
		zero, f := cell.Of(api.Cell{Kind: c.Kind})
		hold(f)
		out = append(out, zero)
	}
	for i, value := range values {
		out[places[i]] = value
	}
	return out
}

func (v *view) list(op Op) [][]api.Cell {
	e := v.table(op.Table, false)
	few(op.Most)
	rows := v.readOne(beginning(row.Prefix(e.Table), false))
	var out [][]api.Cell
	for _, p := range rows[:min(op.Most, len(rows))] {
		out = append(out, cellsOf(rowOf(e, p)))
	}
	return out
}

func (v *view) addIndex(op Op) {
	e, f := catalog.Add(v.table(op.Table, true), op.Index)
	hold(f)
	v.writeEntry(e)
}

func (v *view) dropIndex(op Op) {
	e, f := catalog.Drop(v.table(op.Table, true), op.Name)
	hold(f)
	v.writeEntry(e)
}

func (v *view) step(op Op) {
	e := v.table(op.Table, true)
	few(op.Most)
	last := len(e.States) - 1
	if last < 0 || e.States[last].Phase == catalog.Public {
		panic(api.ErrNone)
	}
	rows := v.readOne(beginning(row.Prefix(e.Table), false))
	there := v.readOne(beginning(row.IndexPrefix(e.Table, last), true))
	at, _ := slices.BinarySearchFunc(rows, e.States[last].Cursor, func(p api.Pair, cursor []byte) int { return codec.Cmp(p.Key, cursor) })
	if e.States[last].Phase == catalog.Building {
		v.build(e, rows[at:], op.Most, there)
	} else {
		v.undo(e, rows[:at], op.Most)
	}
}

// build: the last index takes the first of these rows.
func (v *view) build(e catalog.Entry, rows []api.Pair, most int, there []api.Pair) {
	n := min(most, len(rows))
	built, writes, f := catalog.Build(e, rows[:n], n == len(rows), there...)
	hold(f)
	if slices.ContainsFunc(writes, func(w api.Write) bool { return len(w.Key) > mostKey }) {
		built, f = catalog.Drop(e, e.Indexes[len(e.Indexes)-1].Name)
		hold(f)
		writes = nil
	}
	v.writeEntry(built)
	v.write(writes...)
}

// undo: the last index loses the last of these rows.
func (v *view) undo(e catalog.Entry, rows []api.Pair, most int) {
	n := min(most, len(rows))
	undone, writes, f := catalog.Undo(e, rows[len(rows)-n:], n == len(rows))
	hold(f)
	v.writeEntry(undone)
	v.write(writes...)
}
