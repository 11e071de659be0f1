package world

import (
	"fmt"
	"math"
	"math/rand/v2"
	"reflect"
	"slices"
	"strings"
	"testing"

	"caisson/api"
	"caisson/lsm"
	"caisson/node"
	"caisson/plan"
	"caisson/replica"
)

// allOf is all that a value has, the spare room of its lists too.
func allOf(v reflect.Value) string {
	var out strings.Builder
	switch v.Kind() {
	case reflect.Slice:
		fmt.Fprint(&out, v.Len(), "[")
		for i := range v.Cap() {
			out.WriteString(allOf(v.Slice(0, v.Cap()).Index(i)))
		}
		out.WriteString("]")
	case reflect.Struct:
		for i := range v.NumField() {
			out.WriteString(allOf(v.Field(i)))
		}
	default:
		fmt.Fprintf(&out, "%v ", v)
	}
	return out.String()
}

// roomy is a copy of a value whose lists have spare room with something in it.
func roomy(v reflect.Value) reflect.Value {
	out := reflect.New(v.Type()).Elem()
	switch v.Kind() {
	case reflect.Slice:
		all := reflect.MakeSlice(v.Type(), v.Len()+2, v.Len()+2)
		for i := range v.Len() {
			all.Index(i).Set(roomy(v.Index(i)))
		}
		for i := v.Len(); i < all.Len() && v.Len() > 0; i++ {
			all.Index(i).Set(roomy(v.Index(0)))
		}
		out.Set(all.Slice3(0, v.Len(), v.Len()+2))
	case reflect.Struct:
		for i := range v.NumField() {
			out.Field(i).Set(roomy(v.Field(i)))
		}
	default:
		out.Set(v)
	}
	return out
}

// handed is a copy of what is to be handed in.
func handed[T any](x T) T { return roomy(reflect.ValueOf(x)).Interface().(T) }

// lists are all lists of a value, those within others behind these.
func lists(v reflect.Value) []reflect.Value {
	var out []reflect.Value
	switch v.Kind() {
	case reflect.Slice:
		out = append(out, reflect.ValueOf(v.Interface())) // so that it stays when the list around it is written over
		for i := range v.Len() {
			out = append(out, lists(v.Index(i))...)
		}
	case reflect.Struct:
		for i := range v.NumField() {
			out = append(out, lists(v.Field(i))...)
		}
	}
	return out
}

// spoil writes over all lists of values, their spare room too.
func spoil(values ...any) {
	for _, x := range values {
		for _, l := range lists(reflect.ValueOf(x)) {
			for i := range l.Cap() {
				switch x := l.Slice(0, l.Cap()).Index(i); x.Kind() {
				case reflect.Uint8:
					x.SetUint(77)
				case reflect.Int:
					x.SetInt(77)
				default:
					x.SetZero()
				}
			}
		}
	}
}

// apart looks whether no two lists of some values have memory in common.
func apart(t *testing.T, what string, values ...any) {
	t.Helper()
	type room struct{ from, to uintptr }
	var rooms []room
	for _, x := range values {
		for _, l := range lists(reflect.ValueOf(x)) {
			if size := l.Type().Elem().Size() * uintptr(l.Cap()); size > 0 {
				rooms = append(rooms, room{l.Pointer(), l.Pointer() + size})
			}
		}
	}
	slices.SortFunc(rooms, func(a, b room) int { return int(a.from) - int(b.from) })
	for i := range rooms {
		if i > 0 && rooms[i].from < rooms[i-1].to {
			t.Fatalf("%s: two lists share memory", what)
		}
	}
}

// fullOps have something in each list.
func fullOps() []plan.Op {
	def := defs()[0]
	def.Indexes = append(def.Indexes, api.Index{Name: "v", Cols: []int{1, 0}})
	return []plan.Op{
		{Kind: plan.Create, Table: "x", Name: "y", Def: def, Index: def.Indexes[1], Cells: []api.Cell{num(1), {Kind: api.Bytes, Data: []byte("abc")}}, Most: 3},
		put("t", num(1), text("a")), {Kind: plan.Find, Table: "t", Name: "v", Cells: []api.Cell{text("a")}, Most: 3}, {Kind: plan.List, Table: "t", Most: 5},
	}
}

// aCourse is what a world is at a course of events; where it is spoilt what it is handed and what it answers is written over.
func aCourse(t *testing.T, spoilt bool) string {
	var out strings.Builder
	splits := handed([][]byte{[]byte("i"), []byte("r")})
	o := usual()
	o.Keep = 2
	w, e := New(3, splits, o)
	if e != api.OK {
		t.Fatal(e)
	}
	if spoilt {
		spoil(splits)
	}
	r := rand1(5)
	events := anyEvents(r, 2, 900, append(anyRequests(r, 20), fullOps(), fullOps()))
	w.Calm(12)
	w.Do(Event{Kind: Ask, A: 7, Ops: handed(fullOps())})
	for i, e := range events {
		e = handed(e)
		before := allOf(reflect.ValueOf(e))
		w.Do(e)
		if allOf(reflect.ValueOf(e)) != before {
			t.Fatalf("the event %d changes its argument", i)
		}
		if spoilt {
			spoil(e)
		}
		if i%90 == 0 {
			w.Calm(4)
			one, two := w.History(), w.History()
			apart(t, "History", e, one, two, w.Open(), w.Open())
			fmt.Fprintln(&out, handed(one), w.Open(), w.Net())
			if spoilt {
				spoil(one, two, w.Open())
			}
		}
	}
	w.Calm(60)
	fmt.Fprintln(&out, handed(w.History()), w.packets())
	for i := range 3 {
		for s := range 3 {
			b, e := w.Node(i).Shard(s).Dump()
			fmt.Fprintln(&out, b, e)
		}
	}
	return out.String()
}

func TestMemory(t *testing.T) { // P26.5
	want := aCourse(t, false)
	if got := aCourse(t, true); got != want {
		t.Error("what is handed in is kept, or what is answered is")
	}
	if aCourse(t, false) != want {
		t.Error("two courses differ")
	}
	requests := handed([][]plan.Op{fullOps(), {get("t", num(1))}})
	script := []byte("\x05\x00\x01\x05\x01\x02\x05\x02\x03\x00\x00\x00")
	before := allOf(reflect.ValueOf(requests))
	one, two := Script(script, requests...), Script(script, requests...)
	if allOf(reflect.ValueOf(requests)) != before {
		t.Error("Script changes an argument")
	}
	apart(t, "Script", requests, script, one, two)
	said := fmt.Sprint(two)
	spoil(one, requests, script)
	if fmt.Sprint(two) != said || !strings.Contains(said, "abc") && !strings.Contains(said, "[97 98 99]") {
		t.Errorf("Script = %v", two)
	}
}

func TestHistoryIsAsAsked(t *testing.T) { // P26.1: requests are as they were asked, whatever is in them
	w := newWorld(t, 1, nil)
	want := [][]plan.Op{fullOps(), nil, {}, {{}}, {{Kind: -1, Cells: []api.Cell{}, Def: api.Table{Cols: []api.Col{}, Indexes: []api.Index{{}}}, Index: api.Index{Cols: []int{}}}}, make([]plan.Op, 20)}
	for i, ops := range want {
		w.asks(i, 0, ops...)
	}
	for i, c := range w.History().Calls {
		if !reflect.DeepEqual(c, Called{Txn: txn(uint64(i), 1), Ops: want[i], At: i + 1}) {
			t.Errorf("the call %d is %v; want %v", i, c, want[i])
		}
	}
}

func TestAnyArguments(t *testing.T) { // P1
	numbers := []int{0, 1, 2, 3, 5, 7, -1, math.MaxInt, math.MinInt, math.MaxInt32}
	r := rand.New(rand.NewPCG(26, 6))
	n := func() int { return numbers[r.IntN(len(numbers))] }
	for range 80 {
		o := Options{Options: node.Options{Options: replica.Options{Limit: n(), Keep: n(), Lsm: lsm.Options{Mem: n(), Block: n(), Fan: n()}}, Every: n(), Patience: n()}, Room: n()}
		splits := [][][]byte{nil, {{}}, make([][]byte, 9), {[]byte("i"), []byte("r")}}[r.IntN(4)]
		w, e := New(n(), splits, o)
		if e != api.OK {
			o.Limit, o.Lsm = 1+r.IntN(3), lsm.Options{}
			o.Room = 1 << (r.IntN(14) * 2)
			if w, e = New(1+r.IntN(5), cuts()[r.IntN(6)], o); e != api.OK {
				t.Fatal(e)
			}
		}
		for range 300 {
			ev := Event{Kind: r.IntN(14) - 1, A: n(), B: n(), Ops: []plan.Op{anyOp(r), {Kind: n(), Most: n(), Cells: make([]api.Cell, r.IntN(3000))}}[:r.IntN(3)], Keeps: []int{n(), n()}[:r.IntN(3)]}
			if ev.Kind == 0 {
				ev.Kind = n()
			}
			w.Do(ev)
			w.Do(Event{Kind: Come})
			w.Node(n())
			w.Open()
			w.Net()
		}
		w.History()
		w.Calm([]int{0, -1, math.MinInt, 1, 2, 9}[r.IntN(6)])
	}
	Script(nil, nil...)
	Script(make([]byte, 100), nil, nil)
}
