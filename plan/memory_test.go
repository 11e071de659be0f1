package plan

import (
	"fmt"
	"reflect"
	"slices"
	"strings"
	"testing"

	"caisson/api"
	"caisson/catalog"
)

// whole is all that a value has, the spare room of its lists too.
func whole(v reflect.Value) string {
	var out strings.Builder
	switch v.Kind() {
	case reflect.Slice:
		fmt.Fprint(&out, v.Len(), "[")
		for i := range v.Cap() {
			out.WriteString(whole(v.Slice(0, v.Cap()).Index(i)))
		}
		out.WriteString("]")
	case reflect.Struct:
		for i := range v.NumField() {
			out.WriteString(whole(v.Field(i)))
		}
	case reflect.Interface:
		if !v.IsNil() {
			return whole(v.Elem())
		}
	default:
		fmt.Fprintf(&out, "%v ", v)
	}
	return out.String()
}

// wholes is all that values have.
func wholes(list []reflect.Value) string {
	var out strings.Builder
	for _, v := range list {
		out.WriteString(whole(v))
	}
	return out.String()
}

// roomy is a copy of a value whose lists have spare room with something in it.
func roomy(v reflect.Value) reflect.Value {
	out := reflect.New(v.Type()).Elem()
	switch v.Kind() {
	case reflect.Slice:
		all := reflect.MakeSlice(v.Type(), v.Len()+2, v.Len()+2)
		for i := range v.Len() {
			all.Index(i).Set(roomy(v.Index(i)))
		}
		for i := v.Len(); i < all.Len() && v.Len() > 0; i++ {
			all.Index(i).Set(roomy(v.Index(0)))
		}
		out.Set(all.Slice3(0, v.Len(), v.Len()+2))
	case reflect.Struct:
		for i := range v.NumField() {
			out.Field(i).Set(roomy(v.Field(i)))
		}
	case reflect.Interface:
		if !v.IsNil() {
			out.Set(roomy(v.Elem()))
		}
	default:
		out.Set(v)
	}
	return out
}

// lists are all lists of a value, those within others behind these.
func lists(v reflect.Value) []reflect.Value {
	var out []reflect.Value
	switch v.Kind() {
	case reflect.Slice:
		out = append(out, reflect.ValueOf(v.Interface())) // so that it stays when the list around it is written over
		for i := range v.Len() {
			out = append(out, lists(v.Index(i))...)
		}
	case reflect.Struct:
		for i := range v.NumField() {
			out = append(out, lists(v.Field(i))...)
		}
	case reflect.Interface:
		if !v.IsNil() {
			return lists(v.Elem())
		}
	}
	return out
}

// spoil writes over a list, its spare room too.
func spoil(v reflect.Value) {
	for i := range v.Cap() {
		x := v.Slice(0, v.Cap()).Index(i)
		switch {
		case x.Kind() == reflect.Uint8:
			x.SetUint(77)
		case x.Kind() == reflect.Int:
			x.SetInt(77)
		default:
			x.SetZero()
		}
	}
}

// itself is a value without what the lists in it have.
func itself(v reflect.Value) string {
	switch v.Kind() {
	case reflect.Slice:
		return fmt.Sprint(v.Len())
	case reflect.Struct:
		out := ""
		for i := range v.NumField() {
			out += itself(v.Field(i)) + " "
		}
		return out
	}
	return whole(v)
}

// shown is what lists have, each itself, but for the one at this place.
func shown(all []reflect.Value, but int) string {
	var out strings.Builder
	for i, v := range all {
		for j := range v.Len() {
			if i != but {
				out.WriteString(itself(v.Index(j)))
			}
		}
	}
	return out.String()
}

// remembers looks whether a call changes or keeps what it is handed, and whether its answer's lists are its own.
func remembers(t *testing.T, what string, call any, args ...any) {
	t.Helper()
	f := reflect.ValueOf(call)
	hand := func() []reflect.Value {
		var out []reflect.Value
		for i, a := range args {
			if a == nil {
				a = reflect.Zero(f.Type().In(i)).Interface()
			}
			out = append(out, roomy(reflect.ValueOf(a)))
		}
		return out
	}
	ask := func(in []reflect.Value) []reflect.Value {
		var out []reflect.Value
		answers := f.Call
		if f.Type().IsVariadic() {
			answers = f.CallSlice
		}
		for _, v := range answers(in) {
			out = append(out, lists(v)...)
		}
		return out
	}
	in := hand()
	before := wholes(in)
	got := ask(in)
	if wholes(in) != before {
		t.Errorf("%s changes an argument", what)
	}
	want := shown(got, -1)
	if len(got) == 0 || len(want) == 0 {
		t.Fatalf("%s answers no lists", what)
	}
	for _, v := range in {
		for _, l := range lists(v) {
			spoil(l)
		}
	}
	if shown(got, -1) != want {
		t.Errorf("%s shares memory with an argument", what)
	}
	in = hand()
	one, two := ask(in), ask(in)
	for i, v := range one {
		rest := shown(one, i)
		spoil(v)
		if shown(one, i) != rest {
			t.Errorf("%s: the list %d of its answer shares memory with another one", what, i)
		}
	}
	if shown(two, -1) != want {
		t.Errorf("%s: two answers share memory", what)
	}
}

func TestMemory(t *testing.T) { // P22.6
	l := indexed(t, unique("u", 1), catalog.Public)
	l.comes(0, 0, put("t", num(9), text("nine"), data(1, 2, 3)), add("t", plainly("p", 0, 1)), step("t", 3))
	known := []Known{{Range: api.Range{From: []byte{99}, To: []byte{200}, Excl: true}, Pairs: pairs(l.store, api.Range{}, l.r)}}
	table := with(people(), unique("x", 1, 2), plainly("y", 0))
	table.Id, table.Name = 9, "new"
	requests := [][]Op{
		{create(table), put("new", num(5), text("five"), data(5))}, {put("t", num(1), text("other"), data(7)), remove("t", num(0))}, {get("t", num(9)), list("t", 3), find("t", "u", 2, text("nine"))}, {get("t", num(9)), put("t", num(9), text("nine"), data(1, 2))},
		{step("t", 1)}, {step("t", 64)}, {drop("t", "p"), step("t", 64), add("t", plainly("q", 2)), step("t", 2)}, {expect("t", num(9), text("nine"), data(1, 2, 3)), list("t", 64), put("t", num(9), null(), data(7))},
	}
	for i, ops := range requests {
		if x := Run(ops, known...); x.Need != nil || x.Reply.Err != 0 {
			t.Fatalf("%s comes to %v", told(ops), x)
		}
		remembers(t, "Run of "+told(ops), Run, ops, known)
		remembers(t, "Encode", Encode, ops)
		remembers(t, "Decode", Decode, Encode(ops))
		r := Run(ops, known...).Reply
		remembers(t, "Bytes", Reply.Bytes, r)
		remembers(t, "Read", Read, r.Bytes())
		remembers(t, "Run of a Find with less", Run, []Op{find("t", "u", 64)}, []Known{{Range: api.Range{To: []byte{114}}, Pairs: known[0].Pairs}})
		for less := range 4 {
			known := []Known{{Range: all("c", true), Pairs: known[0].Pairs}, {Range: all("r", i%2 == 0), Pairs: known[0].Pairs}, {Range: all("i", false), Pairs: known[0].Pairs}}[:less]
			if x := Run(ops, known...); x.Need != nil {
				remembers(t, "Run with less of "+told(ops), Run, ops, known)
			}
		}
	}
	few := slices.DeleteFunc(oddOps(), func(op Op) bool { return len(op.Def.Cols) != 2 })
	remembers(t, "Encode of odd ops", Encode, few)
	remembers(t, "Decode of odd ops", Decode, Encode(few))
	remembers(t, "Read of an odd reply", Read, replies()[7].Bytes())
}

func TestAnyArguments(t *testing.T) { // P1, P22.5
	l := indexed(t, unique("u", 1), catalog.Building)
	there := pairs(l.store, api.Range{}, nil)
	odd := append([]api.Pair{{}, {Key: []byte{99}}, {Key: []byte{99, 0}, Value: []byte{1}}, {Key: make([]byte, 2000), Value: make([]byte, 70000)}, {Key: []byte{114, 7}, Value: []byte{1, 1}}, {Key: []byte{105, 7, 1}, Value: []byte{1}}, {Key: []byte{114, 7, 255}}}, there...)
	ranges := []api.Range{{}, {Excl: true}, {From: []byte{255}, To: []byte{0}, Excl: true}, {From: make([]byte, 5000)}, {From: []byte{114}, To: []byte{114}}}
	var knowns [][]Known
	for _, r := range ranges {
		knowns = append(knowns, []Known{{Range: r, Pairs: odd}}, []Known{{Range: r}, {Range: api.Range{Excl: true}, Pairs: there}}, []Known{{Range: r, Pairs: there}, {Range: r, Pairs: odd}, {}})
	}
	ops := oddOps()
	for _, op := range oddOps() {
		op.Table = "t"
		few := op
		few.Cells, few.Most = op.Cells[:min(1, len(op.Cells))], 3
		ops = append(ops, op, few)
	}
	run := func(ops []Op, known []Known) {
		x := Run(ops, known...)
		if len(x.Need) > 0 && (!zero(x.Reply) || x.Writes != nil) || x.Reply.Err != 0 && (x.Writes != nil || x.Reply.Rows != nil || x.Need != nil) || x.Reply.Err == 0 && x.Reply.At != 0 {
			t.Fatalf("%s comes to %.1000v", told(ops), x)
		}
		if x.Need == nil && x.Reply.Err == 0 && len(x.Reply.Rows) != len(ops) {
			t.Fatalf("%s answers %v", told(ops), x.Reply)
		}
	}
	for _, known := range knowns {
		for i := range ops {
			run(ops[i:i+1], known)
			run(ops[i:min(len(ops), i+5)], known)
		}
		run(ops, known)
	}
}
