package session

import (
	"fmt"
	"math"
	"math/rand/v2"
	"reflect"
	"strings"
	"testing"

	"caisson/api"
	"caisson/plan"
)

// whole is all that a value has, the spare room of its lists too.
func whole(v reflect.Value) string {
	var out strings.Builder
	switch v.Kind() {
	case reflect.Slice:
		fmt.Fprint(&out, v.Len(), "[")
		for i := range v.Cap() {
			out.WriteString(whole(v.Slice(0, v.Cap()).Index(i)))
		}
		out.WriteString("]")
	case reflect.Struct:
		for i := range v.NumField() {
			out.WriteString(whole(v.Field(i)))
		}
	case reflect.Interface:
		if !v.IsNil() {
			return whole(v.Elem())
		}
	default:
		fmt.Fprintf(&out, "%v ", v)
	}
	return out.String()
}

// wholes is all that values have.
func wholes(list []reflect.Value) string {
	var out strings.Builder
	for _, v := range list {
		out.WriteString(whole(v))
	}
	return out.String()
}

// roomy is a copy of a value whose lists have spare room with something in it.
func roomy(v reflect.Value) reflect.Value {
	out := reflect.New(v.Type()).Elem()
	switch v.Kind() {
	case reflect.Slice:
		all := reflect.MakeSlice(v.Type(), v.Len()+2, v.Len()+2)
		for i := range v.Len() {
			all.Index(i).Set(roomy(v.Index(i)))
		}
		for i := v.Len(); i < all.Len() && v.Len() > 0; i++ {
			all.Index(i).Set(roomy(v.Index(0)))
		}
		out.Set(all.Slice3(0, v.Len(), v.Len()+2))
	case reflect.Struct:
		for i := range v.NumField() {
			out.Field(i).Set(roomy(v.Field(i)))
		}
	case reflect.Interface:
		if !v.IsNil() {
			out.Set(roomy(v.Elem()))
		}
	default:
		out.Set(v)
	}
	return out
}

// lists are all lists of a value, those within others behind these.
func lists(v reflect.Value) []reflect.Value {
	var out []reflect.Value
	switch v.Kind() {
	case reflect.Slice:
		out = append(out, reflect.ValueOf(v.Interface())) // so that it stays when the list around it is written over
		for i := range v.Len() {
			out = append(out, lists(v.Index(i))...)
		}
	case reflect.Struct:
		for i := range v.NumField() {
			out = append(out, lists(v.Field(i))...)
		}
	case reflect.Interface:
		if !v.IsNil() {
			return lists(v.Elem())
		}
	}
	return out
}

// spoil writes over a list, its spare room too.
func spoil(v reflect.Value) {
	for i := range v.Cap() {
		x := v.Slice(0, v.Cap()).Index(i)
		switch {
		case x.Kind() == reflect.Uint8:
			x.SetUint(77)
		case x.Kind() == reflect.Int:
			x.SetInt(77)
		default:
			x.SetZero()
		}
	}
}

// itself is a value without what the lists in it have.
func itself(v reflect.Value) string {
	switch v.Kind() {
	case reflect.Slice:
		return fmt.Sprint(v.Len())
	case reflect.Struct:
		out := ""
		for i := range v.NumField() {
			out += itself(v.Field(i)) + " "
		}
		return out
	}
	return whole(v)
}

// shown is what lists have, each itself, but for the one at this place.
func shown(all []reflect.Value, but int) string {
	var out strings.Builder
	for i, v := range all {
		for j := range v.Len() {
			if i != but {
				out.WriteString(itself(v.Index(j)))
			}
		}
	}
	return out.String()
}

// remembers looks whether a call changes or keeps what it is handed, and whether its answer's lists are its own.
func remembers(t *testing.T, what string, call any, args ...any) {
	t.Helper()
	f := reflect.ValueOf(call)
	hand := func() []reflect.Value {
		var out []reflect.Value
		for i, a := range args {
			if a == nil {
				a = reflect.Zero(f.Type().In(i)).Interface()
			}
			out = append(out, roomy(reflect.ValueOf(a)))
		}
		return out
	}
	ask := func(in []reflect.Value) []reflect.Value {
		var out []reflect.Value
		answers := f.Call
		if f.Type().IsVariadic() {
			answers = f.CallSlice
		}
		for _, v := range answers(in) {
			out = append(out, lists(v)...)
		}
		return out
	}
	in := hand()
	before := wholes(in)
	got := ask(in)
	if wholes(in) != before {
		t.Errorf("%s changes an argument", what)
	}
	want := shown(got, -1)
	if len(got) == 0 || len(want) == 0 {
		t.Fatalf("%s answers no lists", what)
	}
	for _, v := range in {
		for _, l := range lists(v) {
			spoil(l)
		}
	}
	if shown(got, -1) != want {
		t.Errorf("%s shares memory with an argument", what)
	}
	in = hand()
	one, two := ask(in), ask(in)
	for i, v := range one {
		rest := shown(one, i)
		spoil(v)
		if shown(one, i) != rest {
			t.Errorf("%s: the list %d of its answer shares memory with another one", what, i)
		}
	}
	if shown(two, -1) != want {
		t.Errorf("%s: two answers share memory", what)
	}
}

// spoilAll writes over all lists of values.
func spoilAll(values ...any) {
	for _, v := range values {
		for _, l := range lists(reflect.ValueOf(v)) {
			spoil(l)
		}
	}
}

// aCourse is what a client answers. If so wanted, all that it is handed and all that it answers is written over at once.
func aCourse(spoiled bool) string {
	over := func(values ...any) {
		if spoiled {
			spoilAll(values...)
		}
	}
	var out strings.Builder
	c := New(5)
	for i := range 4 {
		ops := []plan.Op{{Kind: plan.Get, Table: "t", Cells: []api.Cell{{Kind: api.Bytes, Data: []byte{byte(i), 9}}}}, {Kind: plan.Create, Def: api.Table{Name: "t", Cols: []api.Col{{Name: "a"}}, Indexes: []api.Index{{Name: "x", Cols: []int{1, 2}}}}}}
		x, e := c.Ask(ops)
		over(ops)
		for range 2 {
			p, ok := c.Call(i)
			fmt.Fprintln(&out, x, e, p, ok)
			over(p)
		}
		p := Packet{Kind: Reply, Txn: x, Data: plan.Reply{At: i, Rows: [][][]api.Cell{{{{Kind: api.Bytes, Data: []byte{byte(i), 7}}}}}}.Bytes()}
		r, ok := c.Take(p)
		fmt.Fprintln(&out, r, ok)
		over(r, p)
		for range 2 {
			all := c.Replies()
			fmt.Fprintln(&out, all)
			over(all)
		}
	}
	return out.String()
}

func TestMemory(t *testing.T) { // P24.4
	if got, want := aCourse(true), aCourse(false); got != want || strings.Count(want, "true") < 10 {
		t.Errorf("what is handed in is kept, or what is answered is: it goes\n%s\nwant\n%s", got, want)
	}
	for _, p := range packets()[:5] {
		b, _ := p.Bytes()
		remembers(t, "Bytes", Packet.Bytes, p)
		remembers(t, "Read", Read, b)
	}
	r := rand.New(rand.NewPCG(24, 5))
	for i := range 100 {
		p := anyPacket(Raft+i%5, r)
		b, _ := p.Bytes()
		remembers(t, "Bytes", Packet.Bytes, p)
		if got, _ := Read(b); shown(lists(reflect.ValueOf(got)), -1) != "" {
			remembers(t, "Read", Read, b)
		}
	}
	reply := replyTo(api.Txn{Session: 1, Seq: 1}, plan.Reply{Rows: [][][]api.Cell{{{{Kind: api.Bytes, Data: []byte{7}}}}}})
	asked := func() *Client {
		c := New(1)
		c.Ask(get(1))
		return c
	}
	remembers(t, "Take", func(p Packet) plan.Reply {
		r, _ := asked().Take(p)
		return r
	}, reply)
	remembers(t, "Replies", func(p Packet) []plan.Reply {
		c := asked()
		c.Take(p)
		return c.Replies()
	}, reply)
	remembers(t, "Call", func(ops []plan.Op) Packet {
		c := New(1)
		c.Ask(ops)
		p, _ := c.Call(2)
		return p
	}, get(1))
}

func TestAnyArguments(t *testing.T) { // P1
	r := rand.New(rand.NewPCG(24, 6))
	for range 3000 {
		p := anyPacket([]int{0, -1, 1, 2, 3, 4, 5, 6, math.MaxInt, math.MinInt}[r.IntN(10)], r)
		if b, e := p.Bytes(); (e == api.OK) != (b != nil) || e == api.OK && !reads(t, b) {
			t.Fatalf("Bytes of %v = %v, %v", p, b, e)
		}
		c := New(p.Txn.Session)
		c.Take(p)
		x, e := c.Ask([]plan.Op{{Kind: p.Kind, Most: p.Lead}})
		p.Txn = x
		c.Call(p.To)
		if _, ok := c.Take(p); e != api.OK || ok && p.Kind != Reply {
			t.Fatalf("Take of %v = %v, %v", p, ok, e)
		}
		c.Open()
		c.Replies()
	}
}
