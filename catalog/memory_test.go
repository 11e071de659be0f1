package catalog

import (
	"fmt"
	"reflect"
	"strings"
	"testing"

	"caisson/api"
)

// told is all that a value has, the spare room of its lists too.
func told(v reflect.Value) string {
	var out strings.Builder
	switch v.Kind() {
	case reflect.Slice:
		fmt.Fprint(&out, v.Len(), "[")
		for i := range v.Cap() {
			out.WriteString(told(v.Slice(0, v.Cap()).Index(i)))
		}
		out.WriteString("]")
	case reflect.Struct:
		for i := range v.NumField() {
			out.WriteString(told(v.Field(i)))
		}
	case reflect.Interface:
		if !v.IsNil() {
			return told(v.Elem())
		}
	default:
		fmt.Fprintf(&out, "%v ", v)
	}
	return out.String()
}

// wholes is all that values have.
func wholes(list []reflect.Value) string {
	var out strings.Builder
	for _, v := range list {
		out.WriteString(told(v))
	}
	return out.String()
}

// roomy is a copy of a value whose lists have spare room with something in it.
func roomy(v reflect.Value) reflect.Value {
	out := reflect.New(v.Type()).Elem()
	switch v.Kind() {
	case reflect.Slice:
		all := reflect.MakeSlice(v.Type(), v.Len()+2, v.Len()+2)
		for i := range v.Len() {
			all.Index(i).Set(roomy(v.Index(i)))
		}
		for i := v.Len(); i < all.Len() && v.Len() > 0; i++ {
			all.Index(i).Set(roomy(v.Index(0)))
		}
		out.Set(all.Slice3(0, v.Len(), v.Len()+2))
	case reflect.Struct:
		for i := range v.NumField() {
			out.Field(i).Set(roomy(v.Field(i)))
		}
	case reflect.Interface:
		if !v.IsNil() {
			out.Set(roomy(v.Elem()))
		}
	default:
		out.Set(v)
	}
	return out
}

// lists are all lists of a value, those within others behind these.
func lists(v reflect.Value) []reflect.Value {
	var out []reflect.Value
	switch v.Kind() {
	case reflect.Slice:
		out = append(out, reflect.ValueOf(v.Interface())) // so that it stays when the list around it is written over
		for i := range v.Len() {
			out = append(out, lists(v.Index(i))...)
		}
	case reflect.Struct:
		for i := range v.NumField() {
			out = append(out, lists(v.Field(i))...)
		}
	case reflect.Interface:
		if !v.IsNil() {
			return lists(v.Elem())
		}
	}
	return out
}

// spoil writes over a list, its spare room too.
func spoil(v reflect.Value) {
	for i := range v.Cap() {
		x := v.Slice(0, v.Cap()).Index(i)
		switch {
		case x.Kind() == reflect.Uint8:
			x.SetUint(77)
		case x.Kind() == reflect.Int:
			x.SetInt(77)
		default:
			x.SetZero()
		}
	}
}

// itself is a value without what the lists in it have.
func itself(v reflect.Value) string {
	switch v.Kind() {
	case reflect.Slice:
		return fmt.Sprint(v.Len())
	case reflect.Struct:
		out := ""
		for i := range v.NumField() {
			out += itself(v.Field(i)) + " "
		}
		return out
	}
	return told(v)
}

// values are what lists have, each itself, but for the one at this place.
func values(all []reflect.Value, but int) string {
	var out strings.Builder
	for i, v := range all {
		for j := range v.Len() {
			if i != but {
				out.WriteString(itself(v.Index(j)))
			}
		}
	}
	return out.String()
}

// remembers looks whether a call changes or keeps what it is handed, and whether its answer's lists are its own.
func remembers(t *testing.T, what string, call any, args ...any) {
	t.Helper()
	f := reflect.ValueOf(call)
	hand := func() []reflect.Value {
		var out []reflect.Value
		for i, a := range args {
			if a == nil {
				a = reflect.Zero(f.Type().In(i)).Interface()
			}
			out = append(out, roomy(reflect.ValueOf(a)))
		}
		return out
	}
	ask := func(in []reflect.Value) []reflect.Value {
		var out []reflect.Value
		answers := f.Call
		if f.Type().IsVariadic() {
			answers = f.CallSlice
		}
		for _, v := range answers(in) {
			out = append(out, lists(v)...)
		}
		return out
	}
	in := hand()
	before := wholes(in)
	got := ask(in)
	if wholes(in) != before {
		t.Errorf("%s changes an argument", what)
	}
	want := values(got, -1)
	if len(got) == 0 || len(want) == 0 {
		t.Fatalf("%s answers no lists", what)
	}
	for _, v := range in {
		for _, l := range lists(v) {
			spoil(l)
		}
	}
	if values(got, -1) != want {
		t.Errorf("%s shares memory with an argument", what)
	}
	in = hand()
	one, two := ask(in), ask(in)
	for i, v := range one {
		rest := values(one, i)
		spoil(v)
		if values(one, i) != rest {
			t.Errorf("%s: the list %d of its answer shares memory with another one", what, i)
		}
	}
	if values(two, -1) != want {
		t.Errorf("%s: two answers share memory", what)
	}
}

func TestMemory(t *testing.T) { // P21.6
	list := rowsOfWide()
	var pairs []api.Pair
	for _, values := range [][]any{list[0], list[4], list[5]} {
		pairs = append(pairs, stored(t, wide(), values...)[0])
	}
	x := api.Index{Name: "w", Cols: []int{1, 2}}
	b := Encode(entry(wide(), Building, 114, 255, 1))
	for _, e := range []Entry{entry(wide(), Public), entry(wide(), Building, 114, 255), entry(wide(), Building, 114, 255, 4), entry(wide(), Undoing, 115)} {
		phase := e.States[2].Phase
		remembers(t, "Encode", Encode, e)
		remembers(t, "Image", Image, e, list[1])
		remembers(t, "Changes", Changes, e, list[1], []any{"a", []byte("x"), nil, int64(5), "E"})
		remembers(t, "Changes to a row", Changes, e, nil, list[1])
		remembers(t, "Changes from a row", Changes, e, list[1], nil)
		remembers(t, "Expected", Expected, e, pairs)
		remembers(t, "Drop", Drop, e, "z")
		in := e
		remembers(t, "Check and Maintains", func(e Entry, key []byte) ([]byte, api.Errno) {
			Check(e)
			Maintains(e, 2, key)
			return []byte("fine"), Check(in)
		}, e, pairs[0].Key)
		for _, last := range []bool{false, true} {
			if phase == Building && len(e.States[2].Cursor) == 2 {
				remembers(t, "Build", Build, e, pairs, last, lasts(t, e.Table, pairs...))
				remembers(t, "Build of a clash", Build, e, pairs, last, []api.Pair{{Key: lasts(t, e.Table, pairs...)[0].Key}})
				remembers(t, "Build of no rows", Build, e, nil, last, nil)
			}
			if phase == Undoing {
				remembers(t, "Undo", Undo, e, pairs, last)
				remembers(t, "Undo of no rows", Undo, e, nil, last)
			}
		}
	}
	remembers(t, "Add", Add, entry(wide(), Public), x)
	remembers(t, "New", New, wide())
	remembers(t, "Decode", Decode, b)
	remembers(t, "Key", Key, "name")
}

func TestAnyArguments(t *testing.T) { // P1
	rows := []api.Pair{{}, {Key: make([]byte, 1<<16)}, pair(t, 1, "a"), pair(t, 1, "a"), {Key: []byte{114, 7}, Value: []byte{255, 255}}}
	odd := [][]any{nil, {}, {nil}, {int64(1), "a"}, {func() {}, 5, map[string]int{}}, make([]any, 1000)}
	indexes := []api.Index{{}, {Name: "u"}, {Name: strings.Repeat("\xff", 1<<16), Cols: make([]int, 1<<16)}, {Name: "new", Cols: []int{1 << 62, -1 << 63}}}
	all := append(strange(), entries()...)
	all = append(all, entry(indexed(true), Building, 114, 7), entry(indexed(true), Undoing, 114, 8))
	for _, e := range all {
		zero := func(what string, got any, f api.Errno) {
			t.Helper()
			if f != 0 && !reflect.ValueOf(got).IsZero() {
				t.Errorf("%s = %v beside %v", what, got, f)
			}
		}
		got, f := New(e.Table)
		zero("New", got, f)
		refused(t, "an entry's bytes", Encode(e))
		for _, values := range odd {
			image, f := Image(e, values...)
			zero("Image", image, f)
			for _, old := range odd {
				w, f := Changes(e, old, values)
				zero("Changes", w, f)
			}
		}
		for n := range len(rows) + 1 {
			list, f := Expected(e, rows[n:]...)
			zero("Expected", list, f)
			list, f = Expected(e, rows[:n]...)
			zero("Expected", list, f)
			for _, last := range []bool{false, true} {
				got, w, f := Build(e, rows[n:], last, rows...)
				zero("Build", got, f)
				zero("Build", w, f)
				got, w, f = Undo(e, rows[n:], last)
				zero("Undo", got, f)
				zero("Undo", w, f)
			}
		}
		for _, x := range indexes {
			got, f := Add(e, x)
			zero("Add", got, f)
			got, f = Drop(e, x.Name)
			zero("Drop", got, f)
		}
	}
}
