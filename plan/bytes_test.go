package plan

import (
	"bytes"
	"fmt"
	"math"
	"math/rand/v2"
	"reflect"
	"slices"
	"strings"
	"testing"

	"caisson/api"
)

// num, text and data are cells.
func num(n int64) api.Cell    { return api.Cell{Kind: api.Int, Int: n} }
func text(s string) api.Cell  { return api.Cell{Kind: api.Text, Text: s} }
func data(b ...byte) api.Cell { return api.Cell{Kind: api.Bytes, Data: b} }
func truth(is bool) api.Cell  { return api.Cell{Kind: api.Bool, Bool: is} }
func null() api.Cell          { return api.Cell{} }
func long(n int) string       { return strings.Repeat("l", n) }
func zero(x any) bool         { return reflect.ValueOf(x).IsZero() }

// oddCells are some, in form and not.
func oddCells() []api.Cell {
	return []api.Cell{
		null(), num(0), num(7), num(-1), num(math.MinInt64), num(math.MaxInt64), text(""), text("a"), text("\xff\x00"), text(long(200)), text(long(70000)), truth(true), truth(false), data(), data(0, 255), data(make([]byte, 200)...),
		{Kind: 5}, {Kind: -1}, {Kind: math.MaxInt}, {Kind: math.MinInt}, {Kind: 1 << 40}, {Kind: api.Int, Text: "a"}, {Kind: api.Null, Bool: true, Int: -5, Text: "t", Data: []byte("d")}, {Kind: api.Text, Data: []byte{0}},
	}
}

// oddTables are some, in form and not.
func oddTables() []api.Table {
	many := api.Table{Id: math.MinInt, Name: long(1000), Keys: math.MaxInt}
	for i := range 300 {
		many.Cols = append(many.Cols, api.Col{Name: fmt.Sprint("\xff", i), Kind: i - 150, Null: i%3 == 0})
		many.Indexes = append(many.Indexes, api.Index{Name: fmt.Sprint(i), Cols: slices.Repeat([]int{i, -i}, i%7), Unique: i%2 == 0})
	}
	return []api.Table{{}, many, {Id: 7, Name: "t", Cols: []api.Col{{Name: "id", Kind: api.Int}, {Name: "name", Kind: api.Text, Null: true}}, Keys: 1, Indexes: []api.Index{{Name: "u", Cols: []int{1, 0}, Unique: true}, {}}}}
}

// oddOps are some ops of each kind, with all fields set; and of other kinds.
func oddOps() []Op {
	var out []Op
	kinds := []int{math.MinInt, -1, 0, 11, 12, 255, 256 + 2, 1<<32 + 2, math.MaxInt}
	for kind := Create; kind <= Expect; kind++ {
		kinds = append(kinds, kind)
	}
	for _, kind := range kinds {
		for i, def := range oddTables() {
			full := Op{Kind: kind, Table: []string{"t", "", "\xff" + long(500)}[i], Name: []string{"u", long(300), ""}[i], Def: def, Cells: oddCells()[i*5:], Most: []int{math.MinInt, 0, 64}[i]}
			if len(def.Indexes) > 0 {
				full.Index = def.Indexes[0]
			}
			out = append(out, full, Op{Kind: kind})
		}
	}
	return out
}

// comesBack is what of an op comes back.
func comesBack(op Op) Op {
	switch op.Kind {
	case Create:
		return Op{Kind: op.Kind, Def: op.Def}
	case Put, Remove, Get, Expect:
		return Op{Kind: op.Kind, Table: op.Table, Cells: op.Cells}
	case Find:
		return Op{Kind: op.Kind, Table: op.Table, Name: op.Name, Cells: op.Cells, Most: op.Most}
	case List, Step:
		return Op{Kind: op.Kind, Table: op.Table, Most: op.Most}
	case AddIndex:
		return Op{Kind: op.Kind, Table: op.Table, Index: op.Index}
	case DropIndex:
		return Op{Kind: op.Kind, Table: op.Table, Name: op.Name}
	}
	return Op{Kind: op.Kind}
}

// alike: are these the same, empty lists and nil too?
func alike(a, b any) bool {
	return fmt.Sprintf("%#v", bare(reflect.ValueOf(a))) == fmt.Sprintf("%#v", bare(reflect.ValueOf(b)))
}

// bare is a value as lists of lists, without types.
func bare(v reflect.Value) any {
	out := []any{}
	switch v.Kind() {
	case reflect.Slice:
		for i := range v.Len() {
			out = append(out, bare(v.Index(i)))
		}
	case reflect.Struct:
		for i := range v.NumField() {
			out = append(out, bare(v.Field(i)))
		}
	default:
		return v.Interface()
	}
	return out
}

func TestEncode(t *testing.T) { // P22.1
	all := oddOps()
	lists := [][]Op{nil, {}, all, make([]Op, 17), make([]Op, 1000)}
	for _, op := range all {
		lists = append(lists, []Op{op})
	}
	for _, ops := range lists {
		var want []Op
		for _, op := range ops {
			want = append(want, comesBack(op))
		}
		got, e := Decode(Encode(ops))
		if e != 0 || !alike(got, want) {
			t.Fatalf("Decode(Encode(%.200v)) = %.200v, %v", ops, got, e)
		}
	}
}

// replies are some, in form and not.
func replies() []Reply {
	out := []Reply{{}, {Err: api.ErrName, At: 15}, {Err: -1, At: math.MinInt}, {Err: math.MaxInt, At: math.MaxInt}, {Rows: [][][]api.Cell{}}, {Rows: [][][]api.Cell{nil, {}, {nil, {}}, nil}}, {Rows: make([][][]api.Cell, 16)}, {Rows: [][][]api.Cell{{oddCells()}, nil, {oddCells()[:3], oddCells()[3:]}}, Err: 5}}
	for _, c := range oddCells() {
		out = append(out, Reply{Rows: [][][]api.Cell{nil, {{c}}}}, Reply{Rows: [][][]api.Cell{slices.Repeat([][]api.Cell{{c}}, 64), nil}})
	}
	return out
}

// room is how many bytes a reply may have whose cells are in form.
func room(r Reply) int {
	size := 500
	for _, rows := range r.Rows {
		for _, cells := range rows {
			for _, c := range cells {
				size += 20 + len(c.Text) + len(c.Data)
			}
		}
	}
	return size
}

func TestBytes(t *testing.T) { // P22.1
	for _, r := range replies() {
		got, e := Read(r.Bytes())
		if e != 0 || !alike(got, r) {
			t.Fatalf("Read(Bytes(%.200v)) = %.200v, %v", r, got, e)
		}
	}
}

func TestSizeOfBytes(t *testing.T) { // P22.1
	r := rand.New(rand.NewPCG(22, 1))
	wide := []api.Cell{num(math.MinInt64), num(-1), num(math.MaxInt64), null(), truth(true), text(""), text(long(200)), data(), data(make([]byte, 200)...), num(0), text(long(20000)), data(make([]byte, 20000)...)}
	list := []Reply{{}, {Err: api.ErrGuard, At: 15}, {Rows: make([][][]api.Cell, 16)}}
	for _, c := range wide {
		list = append(list, Reply{Rows: slices.Repeat([][][]api.Cell{slices.Repeat([][]api.Cell{{c}}, 64)}, 16)}, Reply{Rows: [][][]api.Cell{{slices.Repeat([]api.Cell{c}, 16)}}})
	}
	for range 200 {
		var x Reply
		for range r.IntN(17) {
			var rows [][]api.Cell
			for range r.IntN(5) * r.IntN(17) {
				var cells []api.Cell
				for range 1 + r.IntN(16) {
					cells = append(cells, wide[r.IntN(len(wide)-2)])
				}
				rows = append(rows, cells)
			}
			x.Rows = append(x.Rows, rows)
		}
		list = append(list, x)
	}
	for _, x := range list {
		if n := len(x.Bytes()); n > room(x) {
			t.Fatalf("the Bytes of a reply are %d; at most %d", n, room(x))
		}
	}
}

// other looks what Decode and Read answer to bytes that may be none of theirs; are they none of one's, and none of the other's?
func other(t *testing.T, what string, b []byte) (noRequest, noReply bool) {
	t.Helper()
	ops, e := Decode(b)
	if e == 0 && !bytes.Equal(Encode(ops), b) || e != 0 && (e != api.ErrForm && e != api.ErrEnd || ops != nil) {
		t.Fatalf("Decode of %s = %v, %v", what, ops, e)
	}
	r, f := Read(b)
	if f == 0 && !bytes.Equal(r.Bytes(), b) || f != 0 && (f != api.ErrForm && f != api.ErrEnd || !zero(r)) {
		t.Fatalf("Read of %s = %v, %v", what, r, f)
	}
	return e != 0, f != 0
}

func TestOtherBytes(t *testing.T) { // P22.1, P1
	for _, b := range [][]byte{nil, {255}, {1}, {255, 255, 255, 255, 255, 255, 255, 255, 255, 1}, bytes.Repeat([]byte{255}, 20), {128, 0, 0, 0}, {2, 1}, {1, 2, 3, 97}} {
		if noRequest, noReply := other(t, "some bytes", b); !noRequest || !noReply {
			t.Errorf("%v are a request's, or a reply's", b)
		}
	}
	other(t, "many zeros", make([]byte, 1<<16))
	other(t, "many ones", bytes.Repeat([]byte{1}, 1<<16))
	requests := [][]byte{Encode([]Op{{Kind: Create, Def: oddTables()[2]}, {Kind: Find, Table: "t", Name: "u", Cells: []api.Cell{text("a"), truth(true), data(1)}, Most: 3}}), Encode([]Op{{Kind: AddIndex, Table: "t", Index: api.Index{Name: "u", Cols: []int{1}, Unique: true}}, {Kind: 0}, {Kind: Step, Table: "t", Most: 300}})}
	for _, b := range append(requests, replies()[7].Bytes()[:3], Reply{Err: 3, At: 300, Rows: [][][]api.Cell{nil, {{num(-1), text("abc")}, {null()}}}}.Bytes()) {
		noRequest, noReply := other(t, "bytes", b)
		for n := range b {
			a, c := other(t, "a beginning", b[:n])
			if !noRequest && !a || !noReply && !c {
				t.Fatalf("the first %d of %d bytes are read", n, len(b))
			}
			for bit := range 8 {
				spoilt := bytes.Clone(b)
				spoilt[n] ^= 1 << bit
				other(t, "other bytes", spoilt)
			}
		}
		for _, more := range [][]byte{{0}, {1}, b} {
			a, c := other(t, "bytes and more", append(bytes.Clone(b), more...))
			if !noRequest && !a || !noReply && !c {
				t.Fatalf("bytes are read with more behind them")
			}
		}
	}
	r := rand.New(rand.NewPCG(22, 2))
	for range 20000 {
		b := make([]byte, r.IntN(30))
		for i := range b {
			b[i] = byte(r.IntN(12))
			if r.IntN(9) == 0 {
				b[i] = byte(r.IntN(256))
			}
		}
		other(t, "any bytes", b)
	}
}

// FuzzBytes: any bytes are refused, or a request's, or a reply's.
func FuzzBytes(f *testing.F) { // P22.1, P1
	f.Add(Encode([]Op{{Kind: Create, Def: oddTables()[2]}, {Kind: Find, Table: "t", Name: "u", Cells: []api.Cell{text("a")}, Most: 3}}))
	f.Add(Reply{Rows: [][][]api.Cell{nil, {{num(-1), text("abc")}, {null()}}}}.Bytes())
	f.Fuzz(func(t *testing.T, b []byte) { other(t, "any bytes", b) })
}
