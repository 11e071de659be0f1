package catalog

import (
	"caisson/api"
	"caisson/cell"
)

// Encode: an entry's bytes: all that it has, as values one behind the other. Of one that isn't in form: none, which are no entry's.
func Encode(e Entry) []byte {
	if Check(e) != api.OK {
		return nil
	}
	out := []any{int64(e.Id), e.Name, int64(e.Keys), int64(len(e.Cols))}
	for _, c := range e.Cols {
		out = append(out, c.Name, int64(c.Kind), c.Null)
	}
	for i, x := range e.Indexes {
		var places []byte // one byte each is enough for MaxCols
		for _, c := range x.Cols {
			places = append(places, byte(c))
		}
		out = append(out, x.Name, places, x.Unique, int64(e.States[i].Phase), e.States[i].Cursor)
	}
	b, _ := cell.Encode(out...) // no error, as all of them are values
	return b
}

// Decode: the entry of bytes.
func Decode(b []byte) (Entry, api.Errno) {
	list, f := cell.Decode(b)
	if f != api.OK {
		return Entry{}, f
	}
	e := read(list)
	if Check(e) != api.OK {
		return Entry{}, api.ErrForm
	}
	return e, api.OK
}

// read: the entry of values. One that isn't of the type that it should be, or that is wanting, ends it, and what comes out isn't in form.
func read(list written) (e Entry) {
	defer func() {
		if recover() != nil {
			e = Entry{}
		}
	}()
	e.Id, e.Name, e.Keys = list.number(), list.text(), list.number()
	for range list.number() {
		e.Cols = append(e.Cols, api.Col{Name: list.text(), Kind: list.number(), Null: list.flag()})
	}
	for len(list) > 0 {
		x := api.Index{Name: list.text()}
		for _, c := range list.bytes() {
			x.Cols = append(x.Cols, int(c))
		}
		x.Unique = list.flag()
		e.Indexes = append(e.Indexes, x)
		e.States = append(e.States, State{Phase: list.number(), Cursor: list.bytes()})
	}
	return own(e)
}

// written are values that are taken one behind the other. Each way to take one panics, if it is of another type, or there is none.
type written []any

func (w *written) next() any {
	v := (*w)[0]
	*w = (*w)[1:]
	return v
}

func (w *written) number() int { return int(w.next().(int64)) }

func (w *written) text() string { return w.next().(string) }

func (w *written) flag() bool { return w.next().(bool) }

func (w *written) bytes() []byte { return w.next().([]byte) }
