package plan

import (
	"bytes"
	"fmt"
	"math"
	"slices"
	"testing"

	"caisson/api"
	"caisson/catalog"
	"caisson/cell"
	"caisson/row"
)

// people is a table with a column of each of three kinds, and no index.
func people() api.Table {
	return api.Table{Id: 7, Name: "t", Cols: []api.Col{{Name: "id", Kind: api.Int}, {Name: "name", Kind: api.Text, Null: true}, {Name: "tag", Kind: api.Bytes, Null: true}}, Keys: 1}
}

// with is a table with indexes.
func with(t api.Table, list ...api.Index) api.Table {
	t.Indexes = list
	return t
}

// unique and plainly are indexes.
func unique(name string, cols ...int) api.Index {
	return api.Index{Name: name, Cols: cols, Unique: true}
}

func plainly(name string, cols ...int) api.Index { return api.Index{Name: name, Cols: cols} }

// create, put, remove, get, find, list, add, drop, step and expect are ops.
func create(t api.Table) Op                 { return Op{Kind: Create, Def: t} }
func put(table string, c ...api.Cell) Op    { return Op{Kind: Put, Table: table, Cells: c} }
func remove(table string, c ...api.Cell) Op { return Op{Kind: Remove, Table: table, Cells: c} }
func get(table string, c ...api.Cell) Op    { return Op{Kind: Get, Table: table, Cells: c} }
func list(table string, most int) Op        { return Op{Kind: List, Table: table, Most: most} }
func step(table string, most int) Op        { return Op{Kind: Step, Table: table, Most: most} }
func drop(table, name string) Op            { return Op{Kind: DropIndex, Table: table, Name: name} }
func expect(table string, c ...api.Cell) Op { return Op{Kind: Expect, Table: table, Cells: c} }
func add(table string, x api.Index) Op      { return Op{Kind: AddIndex, Table: table, Index: x} }
func find(table, name string, most int, c ...api.Cell) Op {
	return Op{Kind: Find, Table: table, Name: name, Most: most, Cells: c}
}

// comes does a request, and looks whether it comes to this.
func (l *life) comes(e api.Errno, at int, ops ...Op) Reply {
	l.Helper()
	r := l.asks("a request", ops...)
	if r.Err != e || r.At != at {
		l.Fatalf("%s comes to %v at %d; want %v at %d", told(ops), r.Err, r.At, e, at)
	}
	return r
}

// rowsAre looks whether an op of a reply has answered these rows.
func (l *life) rowsAre(r Reply, at int, rows ...[]api.Cell) {
	l.Helper()
	if len(r.Rows) <= at || !alike(r.Rows[at], rows) {
		l.Fatalf("the rows %d of %v aren't %v", at, r, rows)
	}
}

func cellsOfRow(c ...api.Cell) []api.Cell { return c }

func TestExamples(t *testing.T) { // P22.2, P22.3
	x := Run([]Op{get("t", num(1))})
	entry := one(string(catalog.Key("t")), false)
	if len(x.Need) != 1 || !sameRange(x.Need[0], entry) || !zero(x.Reply) || x.Writes != nil {
		t.Fatalf("Run(Get t 1) = %v", x)
	}
	x = Run([]Op{get("t", num(1))}, Known{Range: entry})
	if x.Need != nil || !alike(x.Reply, Reply{Err: api.ErrName}) || x.Writes != nil {
		t.Fatalf("without t = %v", x)
	}
	e, _ := catalog.New(people())
	x = Run([]Op{get("t", num(1))}, Known{Range: entry, Pairs: []api.Pair{{Key: entry.From, Value: catalog.Encode(e)}}})
	key, _ := row.Key(people(), int64(1))
	if len(x.Need) != 1 || !sameRange(x.Need[0], one(string(key), false)) {
		t.Fatalf("with t = %v", x)
	}
	l := begin(t, 1)
	l.comes(0, 0, create(people()))
	l.rowsAre(l.comes(0, 0, put("t", num(1), text("a"), null()), get("t", num(1))), 1, cellsOfRow(num(1), text("a"), null()))
}

func TestExamplesOfTheWhole(t *testing.T) { // P22.2, P22.4
	l := begin(t, 2)
	table := api.Table{Id: 1, Name: "t", Cols: []api.Col{{Name: "id", Kind: api.Int}, {Name: "name", Kind: api.Text}}, Keys: 1, Indexes: []api.Index{unique("u", 1)}}
	l.comes(0, 0, create(table))
	l.comes(api.ErrThere, 0, create(table))
	l.comes(0, 0, put("t", num(1), text("a")))
	l.comes(api.ErrUnique, 0, put("t", num(2), text("a")))
	l.rowsAre(l.comes(0, 0, find("t", "u", 64, text("a"))), 0, cellsOfRow(num(1), text("a")))
	l.comes(api.ErrNone, 2, put("t", num(3), text("c")), get("t", num(3)), remove("t", num(9)))
	l.rowsAre(l.comes(0, 0, get("t", num(3))), 0)
	l.comes(0, 0, expect("t", num(1), text("a")), put("t", num(1), text("b")))
	l.comes(api.ErrGuard, 0, expect("t", num(1), text("a")), put("t", num(1), text("b")))
	l.comes(0, 0, put("t", num(2), text("y")), put("t", num(3), text("x")))
	l.comes(0, 0, add("t", plainly("x", 1)))
	l.comes(0, 0, step("t", 2))
	l.comes(api.ErrBusy, 0, find("t", "x", 1))
	l.comes(0, 0, put("t", num(1), text("z")))
	l.comes(0, 0, step("t", 2))
	l.rowsAre(l.comes(0, 0, find("t", "x", 64)), 0, cellsOfRow(num(3), text("x")), cellsOfRow(num(2), text("y")), cellsOfRow(num(1), text("z")))
	l.comes(0, 0, drop("t", "x"), step("t", 64), drop("t", "u"), step("t", 64), put("t", num(3), text("z")))
	l.comes(0, 0, add("t", unique("v", 1)))
	l.comes(0, 0, step("t", 64))
	l.comes(api.ErrBusy, 0, find("t", "v", 1))
	l.comes(0, 0, step("t", 64))
	l.comes(api.ErrNone, 0, step("t", 64))
}

func TestNoOps(t *testing.T) { // P22.2
	for _, ops := range [][]Op{nil, {}} {
		if x := Run(ops); !zero(x.Reply) || x.Need != nil || x.Writes != nil {
			t.Errorf("Run of no ops = %v", x)
		}
	}
	l := begin(t, 3)
	l.comes(0, 0, create(people()))
	many := slices.Repeat([]Op{get("t", num(1))}, 16)
	l.comes(0, 0, many...)
	if x := Run(append(many, many[0])); x.Need != nil || !alike(x.Reply, Reply{Err: api.ErrForm}) {
		t.Errorf("Run of 17 ops = %v", x)
	}
	l.comes(api.ErrForm, 0, append(many, Op{})...)
	for _, kind := range []int{math.MinInt, -1, 0, 11, 12, 256 + Get, 1<<32 + Get, math.MaxInt} {
		l.comes(api.ErrForm, 0, Op{Kind: kind, Table: "t", Cells: []api.Cell{num(1)}, Most: 1})
		l.comes(api.ErrForm, 1, get("t", num(1)), Op{Kind: kind})
		if x := Run([]Op{get("t", num(1)), {Kind: kind}}); len(x.Need) != 1 || !zero(x.Reply) { // the ops ahead come first
			t.Errorf("Run = %v", x)
		}
	}
}

func TestCreate(t *testing.T) { // P22.2, P22.3
	def := func(id int, name string) api.Table {
		d := people()
		d.Id, d.Name = id, name
		return d
	}
	l := begin(t, 4)
	wide := def(9, "wide")
	wide.Cols = make([]api.Col, 17)
	bad := []Op{create(wide), create(def(0, "a")), create(with(def(1, "a"), unique("x", 1), unique("x", 2))), create(api.Table{})}
	for _, op := range bad {
		e := row.Check(op.Def)
		l.comes(e, 0, op)
		if x := Run([]Op{op}); x.Need != nil || x.Reply.Err != e || e == 0 { // what is wrong in itself needs nothing
			t.Errorf("Run = %v", x)
		}
	}
	if x := Run([]Op{create(def(1, "a"))}); len(x.Need) != 1 || !sameRange(x.Need[0], api.Range{From: []byte{99}, To: []byte{100}, Excl: true}) {
		t.Errorf("Create needs %v", x.Need)
	}
	for i := range 7 {
		l.comes(0, 0, create(with(def(10+i, fmt.Sprint("t", i)), unique("x", 1), plainly("y", 2, 0))))
	}
	l.comes(api.ErrThere, 0, create(def(20, "t3")))
	l.comes(api.ErrThere, 0, create(def(13, "new")))
	l.comes(api.ErrSize, 1, create(def(20, "t7")), create(def(21, "t8")))
	l.comes(api.ErrThere, 1, create(def(20, "t7")), create(def(20, "t8")))
	l.comes(0, 0, create(def(20, "t7")), put("t7", num(1), null(), null()))
	l.comes(api.ErrThere, 0, create(def(21, "t7")))
	l.comes(api.ErrThere, 0, create(def(16, "t9")))
	l.comes(api.ErrSize, 0, create(def(21, "t9")))
	for _, op := range bad {
		l.comes(row.Check(op.Def), 0, op)
	}
}

func TestNames(t *testing.T) { // P22.2, P22.3: what no table has as its name
	l := begin(t, 5)
	sixteen := people()
	sixteen.Name = "abcdefghijklmnop"
	l.comes(0, 0, create(people()), create(api.Table{Id: 8, Name: sixteen.Name, Cols: people().Cols, Keys: 1}))
	for kind := Put; kind <= Expect; kind++ {
		for _, name := range []string{"", "T", "t ", "tt", "t\x00", "\xff", "abcdefghijklmno", long(16)} {
			l.comes(api.ErrName, 0, Op{Kind: kind, Table: name, Cells: []api.Cell{{Kind: 9}}, Most: -1})
			if x := Run([]Op{{Kind: kind, Table: name}}); len(x.Need) != 1 || !bytes.Equal(x.Need[0].From, catalog.Key(name)) {
				t.Errorf("the kind %d of %q needs %v", kind, name, x.Need)
			}
		}
		for _, name := range []string{sixteen.Name + "q", long(17), long(5000), "t" + string(make([]byte, 16))} {
			if x := Run([]Op{{Kind: kind, Table: name}}); x.Need != nil || !alike(x.Reply, Reply{Err: api.ErrName}) {
				t.Errorf("the kind %d of %q comes to %v", kind, name, x)
			}
		}
		r := l.asks("the longest name", Op{Kind: kind, Table: sixteen.Name, Most: 1})
		if r.Err == api.ErrName {
			t.Errorf("the kind %d of the longest name comes to %v", kind, r)
		}
	}
}

func TestOrderOfErrors(t *testing.T) { // P22.2: of several that apply to an op the first one
	l := begin(t, 6)
	two := api.Table{Id: 8, Name: "u", Cols: []api.Col{{Name: "a", Kind: api.Int}, {Name: "b", Kind: api.Text}}, Keys: 2, Indexes: []api.Index{unique("x", 1), plainly("y", 1, 0)}}
	l.comes(0, 0, create(with(people(), unique("n", 1), plainly("g", 2))), create(two))
	l.comes(0, 0, put("t", num(1), text("a"), data(1)), put("t", num(2), text("b"), null()), put("u", num(1), text("a")))
	odd, bad, wrong, over := api.Cell{Kind: 9}, text("\xff"), truth(true), text(long(201))
	for _, c := range []struct {
		want api.Errno
		op   Op
	}{
		{api.ErrForm, put("t", odd)}, {api.ErrArg, put("t", over)}, {api.ErrArg, put("t")}, {api.ErrArg, put("t", num(1), text("b"), null(), null())}, {api.ErrForm, put("t", odd, over, null())}, {api.ErrSize, put("t", bad, over, wrong)}, {api.ErrForm, put("t", wrong, bad, null())}, {api.ErrType, put("t", wrong, text("b"), null())}, {api.ErrType, put("t", null(), text("b"), null())}, {api.ErrUnique, put("t", num(1), text("b"), null())}, {0, put("t", num(1), text("B"), null())}, {0, put("t", num(1), null(), null())}, {api.ErrUnique, put("t", num(2), null(), data(1))}, {0, put("t", num(2), text("b"), data(1))},
		{api.ErrForm, remove("t", odd, num(1))}, {api.ErrArg, remove("t", over, num(1))}, {api.ErrArg, remove("t")}, {api.ErrArg, remove("t", num(2), text("b"), null())}, {api.ErrSize, remove("t", over)}, {api.ErrForm, remove("t", bad)}, {api.ErrType, remove("t", wrong)}, {api.ErrType, remove("t", null())}, {api.ErrNone, remove("t", num(3))}, {0, remove("t", num(2))}, {api.ErrNone, remove("t", num(2))},
		{api.ErrForm, get("t", odd, num(1))}, {api.ErrArg, get("t", over, num(1))}, {api.ErrArg, get("t")}, {api.ErrArg, get("t", num(1), text("b"), null())}, {api.ErrSize, get("t", over)}, {api.ErrForm, get("t", bad)}, {api.ErrType, get("t", wrong)}, {0, get("t", num(3))},
		{api.ErrForm, expect("t", odd, over)}, {api.ErrArg, expect("t", over, over)}, {api.ErrArg, expect("t")}, {api.ErrArg, expect("t", num(1), num(1), num(1), num(1))}, {api.ErrSize, expect("t", wrong, over, null())}, {api.ErrType, expect("t", num(1), wrong, null())}, {api.ErrForm, expect("t", bad)}, {api.ErrType, expect("t", wrong)}, {api.ErrGuard, expect("t", num(1))}, {0, expect("t", num(9))}, {api.ErrGuard, expect("t", num(9), null(), null())}, {0, expect("t", num(1), null(), null())}, {api.ErrGuard, expect("t", num(1), text(""), null())},
		{0, expect("u", num(1), text("a"))}, {api.ErrGuard, expect("u", num(1), text("A"))}, {api.ErrArg, expect("u", num(1))}, {api.ErrArg, get("u", num(1))}, {0, get("u", num(1), text("b"))},
		{api.ErrArg, find("t", "none", 0, odd)}, {api.ErrArg, find("t", "n", 65)}, {api.ErrArg, find("t", "n", math.MinInt)}, {api.ErrNone, find("t", "none", 64, odd)}, {api.ErrNone, find("t", "name", 1)}, {api.ErrArg, find("t", "n", 1, odd, odd)}, {api.ErrForm, find("u", "y", 1, over, odd)}, {api.ErrSize, find("u", "y", 1, wrong, over)}, {api.ErrForm, find("u", "y", 1, bad, wrong)}, {api.ErrType, find("u", "y", 1, text("a"), text("a"))}, {api.ErrType, find("u", "y", 1, null())}, {api.ErrType, find("t", "n", 1, num(1))}, {0, find("t", "n", 1, null())}, {0, find("u", "y", 1)},
		{api.ErrArg, list("t", 0)}, {api.ErrArg, list("t", 65)}, {api.ErrArg, list("t", -1)}, {0, list("t", 1)}, {0, list("t", 64)},
		{api.ErrArg, step("t", 0)}, {api.ErrArg, step("t", 65)}, {api.ErrNone, step("t", 64)}, {api.ErrNone, step("t", 1)},
		{api.ErrThere, add("t", unique("n", 0))}, {api.ErrForm, add("t", api.Index{Name: "n"})}, {api.ErrForm, add("t", unique("z", 3))}, {api.ErrNone, drop("t", "z")}, {api.ErrArg, drop("t", "n")}, {api.ErrNone, drop("t", "")},
		{0, add("t", plainly("z", 0))}, {api.ErrBusy, add("t", plainly("y", 0))}, {api.ErrThere, add("t", plainly("z", 0))}, {api.ErrArg, find("t", "z", 0, odd, odd)}, {api.ErrBusy, find("t", "z", 1, odd, odd)}, {api.ErrArg, drop("t", "n")}, {api.ErrArg, step("t", -1)}, {0, drop("t", "z")}, {0, drop("t", "z")}, {api.ErrBusy, find("t", "z", 1)}, {0, step("t", 64)}, {api.ErrNone, find("t", "z", 1)},
		{0, add("t", plainly("z", 0))}, {0, step("t", 64)}, {0, add("t", plainly("y", 0))}, {0, step("t", 64)}, {api.ErrSize, add("t", plainly("w", 0))}, {api.ErrSize, add("t", api.Index{})},
	} {
		l.comes(c.want, 0, c.op)
	}
}

// indexed is a life with a table of some rows, and an index in some phase.
func indexed(t *testing.T, x api.Index, phase int) *life {
	l := begin(t, 7)
	l.comes(0, 0, create(with(people(), plainly("g", 2))))
	for i := range 6 {
		l.comes(0, 0, put("t", num(int64(i)), text(fmt.Sprint("n", i)), null()))
	}
	l.comes(0, 0, add("t", x), step("t", 3))
	switch phase {
	case catalog.Public:
		l.comes(0, 0, step("t", 3))
	case catalog.Undoing:
		l.comes(0, 0, drop("t", x.Name))
	}
	return l
}

func TestPhases(t *testing.T) { // P22.2, P22.4: what is written while an index is built or undone
	for _, phase := range []int{catalog.Public, catalog.Building, catalog.Undoing} {
		l := indexed(t, unique("u", 1), phase)
		if l.p["t"].phase != phase {
			t.Fatalf("the phase is %d", l.p["t"].phase)
		}
		clash := api.ErrUnique
		l.comes(clash, 0, put("t", num(1), text("n0"), null()))
		if phase != catalog.Public {
			clash = 0
		}
		l.comes(clash, 0, put("t", num(1), text("n5"), null()))
		l.comes(clash, 0, put("t", num(5), text("n0"), null()))
		l.comes(0, 0, remove("t", num(0)), remove("t", num(4)), put("t", num(0), text("zero"), null()), put("t", num(4), text("four"), null()))
		for range 4 {
			l.asks("a step", step("t", 2))
		}
	}
}

func TestStep(t *testing.T) { // P22.2, P22.4
	ends := func(l *life, phase int, indexes int) {
		t.Helper()
		if x := l.p["t"]; x.phase != phase || len(x.Indexes) != indexes {
			t.Fatalf("the phase is %d, with %d indexes", x.phase, len(x.Indexes))
		}
	}
	l := indexed(t, plainly("n", 1, 0), catalog.Building)
	l.comes(0, 0, step("t", 2))
	ends(l, catalog.Building, 2)
	l.comes(0, 0, put("t", num(9), null(), null()))
	l.comes(0, 0, step("t", 1))
	ends(l, catalog.Building, 2)
	l.comes(0, 0, step("t", 1))
	ends(l, catalog.Public, 2)
	l.comes(0, 0, drop("t", "n"))
	l.comes(0, 0, step("t", 6))
	ends(l, catalog.Undoing, 2)
	l.comes(0, 0, put("t", num(-1), null(), null()))
	l.comes(0, 0, step("t", 1))
	ends(l, catalog.Undoing, 2)
	l.comes(0, 0, step("t", 1))
	ends(l, catalog.Public, 1)
	l.comes(0, 0, add("t", unique("n", 1)), step("t", 64))
	ends(l, catalog.Undoing, 2) // the rows 9 and -1 have no name
	l.comes(0, 0, step("t", 1))
	ends(l, catalog.Public, 1) // the Cursor stood at the beginning
	l.comes(0, 0, add("t", unique("n", 1)), step("t", 3), step("t", 64))
	ends(l, catalog.Undoing, 2)
	l.comes(0, 0, step("t", 2))
	ends(l, catalog.Undoing, 2)
	l.comes(0, 0, step("t", 2))
	ends(l, catalog.Public, 1)
	l.comes(0, 0, remove("t", num(9)), add("t", unique("n", 1)), step("t", 64), find("t", "n", 3))
	ends(l, catalog.Public, 2)
}

// texts is a table with long columns: rows' keys have n + 7 bytes for n of a, entries in an index of b and c 2n + 4 for each, and 3.
func texts(indexes ...api.Index) api.Table {
	return with(api.Table{Id: 3, Name: "t", Cols: []api.Col{{Name: "a", Kind: api.Bytes}, {Name: "b", Kind: api.Bytes}, {Name: "c", Kind: api.Bytes}, {Name: "d", Kind: api.Bytes}}, Keys: 2}, indexes...)
}

// ones are bytes 1, which have as many bytes in keys.
func ones(n int) api.Cell { return data(bytes.Repeat([]byte{1}, n)...) }

func TestLongKeys(t *testing.T) { // P22.2
	for _, n := range []int{195, 196, 197} { // with 196 each a row's key has 400 bytes, and the entry's in u 401
		for _, x := range [][]api.Index{nil, {unique("u", 0, 2)}, {plainly("p", 2)}} {
			l := begin(t, 8)
			l.comes(0, 0, create(texts(x...)))
			key := []api.Cell{ones(196), ones(n)}
			full := append(slices.Clone(key), ones(n-1), ones(1))
			rowFits := n <= 196
			e := api.OK
			if !rowFits {
				e = api.ErrSize
			}
			l.comes(e, 0, get("t", key...))
			l.comes(e, 0, expect("t", key...))
			l.comes(max(e, api.OK), 0, expect("t", key...))
			if rowFits {
				l.comes(api.ErrNone, 0, remove("t", key...))
				l.comes(api.ErrGuard, 0, expect("t", full...))
			} else {
				l.comes(api.ErrSize, 0, remove("t", key...))
				l.comes(api.ErrSize, 0, expect("t", full...))
			}
			if len(x) > 0 && !x[0].Unique {
				e = api.ErrSize
			}
			l.comes(e, 0, put("t", full...))
		}
	}
	for _, n := range []int{195, 196, 197} {
		l := begin(t, 9)
		l.comes(0, 0, create(texts(unique("u", 1, 2), plainly("p", 3))))
		want, at := api.OK, 0 // 3, and 3 more than their lengths for each of two: with 195 and 196 it has 400 bytes
		if n > 196 {
			want, at = api.ErrSize, 1
		}
		l.comes(want, 0, put("t", ones(1), ones(195), ones(n), ones(1)))
		l.comes(want, 0, find("t", "u", 1, ones(195), ones(n)))
		l.comes(want, at, list("t", 1), find("t", "u", 1, ones(195), ones(n)))
		l.comes(0, 0, find("t", "u", 1, ones(195)))
	}
}

func TestLongAndNotUnique(t *testing.T) { // P22.2: what is too long isn't read, so it comes first
	l := begin(t, 10)
	l.comes(0, 0, create(texts(unique("u", 3), unique("v", 1, 2))))
	l.comes(0, 0, put("t", ones(1), ones(1), ones(1), ones(1)))
	l.comes(api.ErrUnique, 0, put("t", ones(2), ones(195), ones(196), ones(1)))
	l.comes(api.ErrSize, 0, put("t", ones(2), ones(196), ones(196), ones(1)))
	l.comes(api.ErrSize, 0, put("t", ones(2), ones(200), ones(200), ones(2)))
}

func TestStepOverLongKeys(t *testing.T) { // P22.2: an entry that is too long has the index undone
	for n, want := range map[int]int{195: catalog.Public, 196: catalog.Public, 197: catalog.Undoing} {
		for _, most := range []int{1, 2, 64} {
			l := begin(t, 11)
			l.comes(0, 0, create(texts()))
			for i := range byte(4) {
				l.comes(0, 0, put("t", data(1), data(9, i), ones(9), ones(9)))
			}
			l.comes(0, 0, put("t", data(2), ones(195), ones(n), ones(1)), put("t", data(3), data(3), data(3), data(3)))
			l.comes(0, 0, add("t", unique("u", 1, 2)))
			for l.p["t"].phase == catalog.Building {
				l.comes(0, 0, step("t", most))
			}
			if x := l.p["t"]; x.phase != want {
				t.Fatalf("the entry with %d: the phase is %d", n, x.phase)
			}
			for l.p["t"].phase == catalog.Undoing {
				l.comes(0, 0, step("t", most))
			}
			if n > 196 && len(pairs(l.store, all("i", false), nil)) > 0 {
				t.Fatalf("of an index entries are left")
			}
		}
	}
}

// longPut puts a row of texts whose key has a + b + 8 bytes, and its entry in an index of the key's columns one more. Unlike i have unlike keys.
func longPut(i, a, b int) Op {
	return put("t", data(append(bytes.Repeat([]byte{1}, a-1), byte(2+i))...), ones(b), data(), data())
}

// nearTooMuch are ops that read 15185 bytes: with a key of 399 bytes 16000.
func nearTooMuch() []Op {
	var out []Op
	for i := range 11 {
		out = append(out, longPut(i, 146, 146))
	}
	return append(out, longPut(11, 187, 187))
}

func TestReadsTogether(t *testing.T) { // P22.2: all that a request reads has 16000 bytes at most
	l := begin(t, 12)
	l.comes(0, 0, create(texts(unique("u", 0, 1))))
	// The table's entry counts 25, and a key of k bytes 2k + 17.
	l.comes(api.ErrForm, 13, append(nearTooMuch(), get("t", ones(195), ones(196)), Op{})...)
	l.comes(api.ErrSize, 12, append(nearTooMuch(), get("t", ones(196), ones(196)), Op{})...)
	var ops []Op // with a key of 322 bytes, and its entry, 16001
	for i := range 11 {
		ops = append(ops, longPut(i, 158, 158))
	}
	l.comes(api.ErrSize, 11, append(slices.Clone(ops), longPut(11, 157, 157), Op{})...)
	l.comes(api.ErrForm, 12, append(slices.Clone(ops), longPut(11, 157, 156), Op{})...)
}

func TestReadsCountOnce(t *testing.T) { // P22.2: what an earlier read has, as strictly, isn't counted
	l := begin(t, 22)
	l.comes(0, 0, create(texts(unique("u", 0, 1))))
	same := get("t", ones(195), ones(196))
	ahead := append(nearTooMuch(), same)
	with := func(more ...Op) []Op { return append(slices.Clone(ahead), more...) }
	l.comes(api.ErrForm, 15, with(same, expect("t", ones(195), ones(196)), Op{})...)
	l.comes(api.ErrForm, 14, with(get("t", ahead[3].Cells[:2]...), Op{})...) // a Put's read, for oneself alone, is as strict as a Get's
	l.comes(api.ErrSize, 13, with(put("t", ones(195), ones(196), data(), data()), Op{})...)
	l.comes(api.ErrSize, 13, with(list("t", 1), Op{})...)
	l.comes(api.ErrSize, 13, with(get("none"), Op{})...)
	rows := append([]Op{list("t", 1)}, ahead[1:]...) // all rows are read at first; then Gets of them aren't counted
	l.comes(api.ErrForm, 15, append(rows, list("t", 2), get("t", ones(3), ones(3)), Op{})...)
}

func TestFindTooMuch(t *testing.T) { // P22.2, P22.3: a Find reads the keys of rows, too
	l := begin(t, 13)
	l.comes(0, 0, create(texts(plainly("p", 2))))
	for i := range byte(40) {
		l.comes(0, 0, put("t", data(append(bytes.Repeat([]byte{9}, 199), i)...), ones(150), data(), data()))
	}
	// A row's key has 358 bytes: so 21 of them are too much.
	for most, want := range map[int]api.Errno{1: 0, 9: 0, 10: 0, 21: api.ErrForm, 22: api.ErrSize, 64: api.ErrSize} {
		at := 0
		ops := []Op{find("t", "p", most)}
		if want == api.ErrForm {
			ops, at = append(ops, Op{}), 1
		}
		l.comes(want, at, ops...)
	}
}

func TestManyWrites(t *testing.T) { // P22.2: 90 keys at most
	l := begin(t, 14)
	table := with(people(), plainly("x", 1), plainly("y", 1, 2), unique("z", 1), plainly("w", 1, 0))
	other := people()
	other.Id, other.Name = 8, "u"
	l.comes(0, 0, create(table), create(other))
	rename := func(n int, s string) []Op {
		var ops []Op
		for i := range n {
			ops = append(ops, put("t", num(int64(i)), text(fmt.Sprint(s, i)), null()))
		}
		return ops
	}
	l.comes(0, 0, rename(16, "a")...)
	more := put("u", num(1), null(), null())
	l.comes(0, 0, rename(10, "b")...)
	l.comes(api.ErrSize, 10, append(rename(10, "c"), more)...)
	l.comes(0, 0, append(rename(9, "d"), more, more, put("u", num(2), null(), null()))...)
	l.comes(api.ErrSize, 15, rename(16, "e")...)
	l.comes(api.ErrForm, 11, append(rename(11, "f"), Op{})...) // only at the last op it shows
	l.comes(0, 0, append(rename(10, "g"), rename(6, "g")...)...)
	l.comes(0, 0, append(rename(6, "h"), rename(6, "i")...)...)
	l.comes(api.ErrSize, 15, append(rename(8, "h"), rename(8, "j")...)...)
}

func TestMuchWritten(t *testing.T) { // P22.2: 6000 bytes at most
	table := api.Table{Id: 3, Name: "t", Cols: []api.Col{{Name: "a", Kind: api.Int}}, Keys: 1}
	for i := range 15 {
		table.Cols = append(table.Cols, api.Col{Name: fmt.Sprint("c", i), Kind: api.Bytes})
	}
	l := begin(t, 15)
	l.comes(0, 0, create(table))
	fill := func(id, n int) Op {
		cells := []api.Cell{num(int64(id))}
		for i := range 15 {
			cells = append(cells, ones(min(200, max(0, n-200*i))))
		}
		return put("t", cells...)
	}
	seen := map[int]api.Errno{}
	for n := 2700; n < 3000; n += 1 {
		ops := []Op{fill(1, 3000), fill(2, n)}
		size := 0
		for _, op := range ops {
			list, _ := row.Entries(table, values(op.Cells)...)
			size += len(list[0].Key) + len(list[0].Value)
		}
		want := api.OK
		if size > 6000 {
			want = api.ErrSize
		}
		x := Run(ops, Known{Range: api.Range{Excl: true}, Pairs: pairs(l.store, api.Range{}, nil)})
		if seen[size] = want; x.Reply.Err != want || want != 0 && (x.Reply.At != 1 || x.Writes != nil) {
			t.Fatalf("%d bytes come to %v", size, x.Reply)
		}
	}
	if _, there := seen[6000]; !there || seen[6001] != api.ErrSize {
		t.Errorf("it wasn't tried at the limit")
	}
}

func TestMuchAnswered(t *testing.T) { // P22.2: 4000 Bytes at most
	l := begin(t, 16)
	l.comes(0, 0, create(people()))
	for i := range 20 {
		l.comes(0, 0, put("t", num(int64(i)), text(long(185)), null()))
	}
	most := map[api.Errno]int{}
	for n := range 201 {
		l.comes(0, 0, put("t", num(19), text(long(n)), null()))
		ops := []Op{list("t", 64), put("t", num(1), text("x"), null()), get("t", num(1))}
		var want Reply
		for i := range 20 {
			cells := cellsOfRow(num(int64(i)), text(long(185)), null())
			if i == 19 {
				cells[1].Text = long(n)
			}
			want.Rows = append(want.Rows, [][]api.Cell{cells})
		}
		want = Reply{Rows: [][][]api.Cell{slices.Concat(want.Rows...), nil, {{num(1), text("x"), null()}}}}
		e := api.OK
		if len(want.Bytes()) > 4000 {
			e = api.ErrSize
		}
		x := Run(ops, Known{Range: api.Range{Excl: true}, Pairs: pairs(l.store, api.Range{}, nil)})
		if most[e]++; e == 0 && !alike(x.Reply, want) || e != 0 && (!alike(x.Reply, Reply{Err: e, At: 2}) || x.Writes != nil) {
			t.Fatalf("%d Bytes come to %.100v", len(want.Bytes()), x.Reply)
		}
	}
	if most[0] == 0 || most[api.ErrSize] == 0 {
		t.Errorf("it wasn't tried at the limit: %v", most)
	}
}

func TestNeeds(t *testing.T) { // P22.3: what each op reads
	l := indexed(t, unique("u", 1), catalog.Building)
	table := l.p["t"].Table
	key := func(id int64) string {
		k, _ := row.Key(table, id)
		return string(k)
	}
	index := func(i int, key string, cells ...any) string {
		k, _ := cell.Key(cells...)
		return string(row.IndexPrefix(table, i)) + string(k) + key
	}
	entry := string(catalog.Key("t"))
	for what, c := range map[string]struct {
		op    Op
		steps [][]api.Range
	}{
		"Get":                {get("t", num(1)), [][]api.Range{{one(entry, false)}, {one(key(1), false)}}},
		"Expect":             {expect("t", num(1), text("n1"), null()), [][]api.Range{{one(entry, false)}, {one(key(1), false)}}},
		"Put of a new row":   {put("t", num(-1), text("a"), data(5)), [][]api.Range{{one(entry, false)}, {one(key(-1), true)}, {one(index(0, key(-1), []byte{5}), true), one(index(1, "", "a"), true)}}},
		"Put of another one": {put("t", num(1), text("a"), null()), [][]api.Range{{one(entry, false)}, {one(key(1), true)}, {one(index(1, "", "a"), true), one(index(1, "", "n1"), true)}}},
		"Put of what it is":  {put("t", num(1), text("n1"), null()), [][]api.Range{{one(entry, false)}, {one(key(1), true)}}},
		"Put behind":         {put("t", num(5), text("a"), null()), [][]api.Range{{one(entry, false)}, {one(key(5), true)}}},
		"Remove":             {remove("t", num(1)), [][]api.Range{{one(entry, false)}, {one(key(1), true)}, {one(index(0, key(1), nil), true), one(index(1, "", "n1"), true)}}},
		"Remove of none":     {remove("t", num(9)), [][]api.Range{{one(entry, false)}, {one(key(9), true)}}},
		"Find":               {find("t", "g", 2, null()), [][]api.Range{{one(entry, false)}, {all(index(0, "", nil), false)}, {one(key(0), false), one(key(1), false)}}},
		"Find of all":        {find("t", "g", 3), [][]api.Range{{one(entry, false)}, {all(index(0, ""), false)}, {one(key(0), false), one(key(1), false), one(key(2), false)}}},
		"Find of none":       {find("t", "g", 3, data(1)), [][]api.Range{{one(entry, false)}, {all(index(0, "", []byte{1}), false)}}},
		"List":               {list("t", 1), [][]api.Range{{one(entry, false)}, {all("r\x07", false)}}},
		"AddIndex":           {add("t", plainly("new", 1)), [][]api.Range{{one(entry, true)}}},
		"DropIndex":          {drop("t", "u"), [][]api.Range{{one(entry, true)}}},
		"Step":               {step("t", 2), [][]api.Range{{one(entry, true)}, {all("r\x07", false)}, {all("i\x07\x01", true)}}},
		"Step of a wrong n":  {step("t", 0), [][]api.Range{{one(entry, true)}}},
		"Create":             {create(api.Table{Id: 1, Name: "n", Cols: table.Cols, Keys: 1}), [][]api.Range{{{From: []byte("c"), To: []byte("d"), Excl: true}}}},
	} {
		var known []Known
		for i := 0; ; i++ {
			x := Run([]Op{c.op}, known...)
			if i == len(c.steps) {
				if x.Need != nil {
					t.Errorf("%s needs %v at last", what, x.Need)
				}
				break
			}
			if !slices.EqualFunc(x.Need, c.steps[i], sameRange) || !zero(x.Reply) || x.Writes != nil {
				t.Fatalf("%s needs %v as its step %d; want %v", what, x.Need, i, c.steps[i])
			}
			for _, r := range x.Need {
				known = append(known, Known{Range: r, Pairs: pairs(l.store, r, l.r)})
			}
		}
	}
	l.comes(0, 0, drop("t", "u"))
	x := Run([]Op{step("t", 2)}, Known{Range: one(entry, true), Pairs: pairs(l.store, one(entry, true), nil)}, Known{Range: all("r", false), Pairs: pairs(l.store, all("r", false), nil)})
	if len(x.Need) != 1 || !sameRange(x.Need[0], all("i\x07\x01", true)) {
		t.Errorf("Step of what is undone needs %v", x.Need)
	}
}

func TestPartsOfNeeds(t *testing.T) { // P22.3: of a step what is known already isn't needed
	l := indexed(t, unique("u", 1), catalog.Public)
	op := find("t", "u", 4)
	known := []Known{{Range: one(string(catalog.Key("t")), false)}, {Range: all("i", false)}}
	for i := range known {
		known[i].Pairs = pairs(l.store, known[i].Range, nil)
	}
	keys := l.p["t"].keys()
	second := Known{Range: one(keys[1], false), Pairs: pairs(l.store, one(keys[1], false), nil)}
	x := Run([]Op{op}, append(known, second)...)
	if want := []api.Range{one(keys[0], false), one(keys[2], false), one(keys[3], false)}; !slices.EqualFunc(x.Need, want, sameRange) {
		t.Errorf("Need = %v; want %v", x.Need, want)
	}
	for _, short := range []api.Range{{From: []byte(keys[0] + "\x00"), To: []byte("s")}, {From: []byte(keys[0]), To: []byte(keys[0])}, {From: []byte("s"), To: []byte("r")}, {From: []byte("r"), To: []byte(keys[0])}, {To: []byte(keys[0])}} {
		x := Run([]Op{op}, append(known, Known{Range: short}, Known{Range: short, Pairs: pairs(l.store, api.Range{}, nil)})...)
		if len(x.Need) == 0 || !sameRange(x.Need[0], one(keys[0], false)) {
			t.Errorf("with %v known Need = %v", short, x.Need)
		}
	}
}

func TestFirstKnown(t *testing.T) { // P22.2: what is read is what the first Known with all keys says
	l := begin(t, 17)
	l.comes(0, 0, create(people()), put("t", num(1), text("a"), null()))
	stored := pairs(l.store, api.Range{}, nil)
	other, _ := row.Entries(people(), int64(1), "b", nil)
	keys := l.p["t"].keys()
	entry := Known{Range: api.Range{To: []byte("d")}, Pairs: stored}
	a, b, none := Known{Range: one(keys[0], false), Pairs: stored}, Known{Range: api.Range{Excl: true}, Pairs: other}, Known{Range: all("r", false)}
	twice := Known{Range: all("r", false), Pairs: append(slices.Clone(other), stored...)}
	name := func(s string) []api.Cell { return []api.Cell{num(1), text(s), null()} }
	for what, c := range map[string]struct {
		known []Known
		want  [][]api.Cell
	}{
		"a, b": {[]Known{entry, a, b}, [][]api.Cell{name("a")}}, "b, a": {[]Known{entry, b, a}, [][]api.Cell{name("b")}}, "none, a": {[]Known{entry, none, a}, nil}, "a, none": {[]Known{entry, a, none}, [][]api.Cell{name("a")}}, "two of a key": {[]Known{entry, twice}, [][]api.Cell{name("b")}},
	} {
		if x := Run([]Op{get("t", num(1))}, c.known...); x.Need != nil || !alike(x.Reply, Reply{Rows: [][][]api.Cell{c.want}}) {
			t.Errorf("with %s known: %v", what, x)
		}
	}
	// For oneself alone it is known by another one than the one that says what it is.
	x := Run([]Op{put("t", num(1), text("b"), null())}, entry, a, b)
	if x.Need != nil || x.Reply.Err != 0 || len(x.Writes) != 1 {
		t.Errorf("Put = %v", x)
	}
	x = Run([]Op{put("t", num(1), text("b"), null())}, entry, b, a)
	if x.Need != nil || x.Reply.Err != 0 || len(x.Writes) != 0 {
		t.Errorf("Put of what it is = %v", x)
	}
	x = Run([]Op{put("t", num(1), text("b"), null())}, entry, a, none)
	if len(x.Need) != 1 || !sameRange(x.Need[0], one(keys[0], true)) {
		t.Errorf("Put = %v", x)
	}
}

func TestOneBehindTheOther(t *testing.T) { // P22.2: each op upon what the ones ahead have written
	l := begin(t, 18)
	r := l.comes(0, 0, create(people()), put("t", num(2), text("b"), null()), put("t", num(1), text("a"), null()), list("t", 2), remove("t", num(2)), list("t", 64), get("t", num(2)), expect("t", num(2)), expect("t", num(1), text("a"), null()))
	l.rowsAre(r, 3, cellsOfRow(num(1), text("a"), null()), cellsOfRow(num(2), text("b"), null()))
	l.rowsAre(r, 5, cellsOfRow(num(1), text("a"), null()))
	l.rowsAre(r, 6)
	r = l.comes(0, 0, add("t", unique("u", 1)), put("t", num(3), text("c"), null()), step("t", 64), find("t", "u", 9), put("t", num(3), text("A"), null()), find("t", "u", 9), remove("t", num(1)), put("t", num(3), text("a"), null()), find("t", "u", 9, text("a")), drop("t", "u"), step("t", 1), add("t", plainly("u", 1)), step("t", 1), find("t", "u", 1))
	l.rowsAre(r, 3, cellsOfRow(num(1), text("a"), null()), cellsOfRow(num(3), text("c"), null()))
	l.rowsAre(r, 5, cellsOfRow(num(3), text("A"), null()), cellsOfRow(num(1), text("a"), null()))
	l.rowsAre(r, 8, cellsOfRow(num(3), text("a"), null()))
	l.rowsAre(r, 13, cellsOfRow(num(3), text("a"), null()))
	l.comes(api.ErrUnique, 5, drop("t", "u"), step("t", 1), add("t", unique("u", 2)), put("t", num(3), text("b"), null()), step("t", 64), put("t", num(4), null(), null()))
}

func TestWrites(t *testing.T) { // P22.2, P22.5: each key once, also of what comes to nothing
	l := begin(t, 19)
	l.comes(0, 0, create(with(people(), plainly("g", 1))))
	whole := func(ops ...Op) []api.Write {
		return Run(ops, Known{Range: api.Range{Excl: true}, Pairs: pairs(l.store, api.Range{}, nil)}).Writes
	}
	a := put("t", num(1), text("a"), null())
	if w := whole(a, remove("t", num(1))); len(w) != 2 || !w[0].Gone || !w[1].Gone {
		t.Errorf("a row that comes and goes: %v", w)
	}
	if w := whole(a, a, put("t", num(1), text("b"), null())); len(w) != 3 || !w[1].Gone == !w[0].Gone || w[2].Gone {
		t.Errorf("a row that changes: %v", w)
	}
	l.comes(0, 0, a)
	for _, ops := range [][]Op{{a}, {get("t", num(1)), list("t", 3), find("t", "g", 1), expect("t", num(2))}, {a, remove("t", num(2))}, {a, put("t", num(2), num(2), null())}} {
		if w := whole(ops...); w != nil {
			t.Errorf("%s writes %v", told(ops), w)
		}
	}
	l.comes(0, 0, drop("t", "g"))
	for _, op := range []Op{drop("t", "g"), step("t", 1)} { // the entry of the table is written, changed or not
		if w := whole(op); len(w) == 0 || w[0].Gone || !bytes.Equal(w[0].Key, catalog.Key("t")) {
			t.Errorf("%v writes %v", op, w)
		}
	}
}

func TestEntriesThatAreNone(t *testing.T) { // P22.2: an entry that catalog.Decode refuses is no table's
	l := begin(t, 20)
	l.comes(0, 0, create(people()), put("t", num(1), null(), null()))
	good := l.store[string(catalog.Key("t"))]
	for what, value := range map[string]string{"nothing": "", "a byte": "\x01", "a beginning": good[:len(good)-1], "more": good + "\x00"} {
		known := Known{Range: api.Range{Excl: true}, Pairs: []api.Pair{{Key: catalog.Key("t"), Value: []byte(value)}}}
		for kind := Put; kind <= Expect; kind++ {
			if x := Run([]Op{{Kind: kind, Table: "t", Cells: []api.Cell{num(1)}, Most: 1}}, known); x.Reply.Err != api.ErrName {
				t.Errorf("the kind %d of a table with %s: %v", kind, what, x)
			}
		}
		if x := Run([]Op{create(people())}, known); x.Reply.Err != 0 || len(x.Writes) != 1 {
			t.Errorf("Create of a table with %s: %v", what, x)
		}
	}
	var many []api.Pair
	for i := range 20 {
		many = append(many, api.Pair{Key: catalog.Key(fmt.Sprint("x", i)), Value: []byte{byte(i)}})
	}
	if x := Run([]Op{create(people())}, Known{Range: api.Range{Excl: true}, Pairs: many}); x.Reply.Err != 0 {
		t.Errorf("Create among what is no table's: %v", x)
	}
	// What stands under another table's name isn't this table's: else its entry would be written elsewhere than was read.
	known := Known{Range: api.Range{Excl: true}, Pairs: []api.Pair{{Key: catalog.Key("v"), Value: []byte(good)}}}
	if x := Run([]Op{add("v", plainly("x", 1))}, known); x.Reply.Err != api.ErrName {
		t.Errorf("AddIndex to another table's entry: %v", x)
	}
}

func TestRowsThatAreNone(t *testing.T) { // P22.2: what is stored under a row's key isn't a row of the table
	l := indexed(t, plainly("p", 1), catalog.Building)
	l.comes(0, 0, put("t", num(7), null(), null()))
	key, _ := row.Key(people(), int64(4))
	others, _ := row.Entries(people(), int64(5), "n5", nil)
	for what, value := range map[string]string{"nothing": "", "bytes": "\xff\xff", "another row": string(others[0].Value)} {
		l.store[string(key)] = value
		known := Known{Range: api.Range{Excl: true}, Pairs: pairs(l.store, api.Range{}, l.r)}
		for _, c := range []struct {
			want api.Errno
			op   Op
		}{
			{api.ErrForm, get("t", num(4))}, {api.ErrForm, remove("t", num(4))}, {api.ErrForm, put("t", num(4), null(), null())}, {api.ErrForm, expect("t", num(4))}, {api.ErrForm, expect("t", num(4), text("n4"), null())}, {api.ErrForm, list("t", 64)}, {api.ErrForm, list("t", 5)}, {0, list("t", 4)}, {api.ErrForm, find("t", "g", 5)}, {0, find("t", "g", 4)}, {api.ErrForm, step("t", 2)}, {0, step("t", 1)}, {0, get("t", num(5))},
		} {
			if x := Run([]Op{c.op}, known); x.Need != nil || x.Reply.Err != c.want || c.want != 0 && x.Writes != nil {
				t.Errorf("the kind %d with %s as a row: %v", c.op.Kind, what, x)
			}
		}
		if x := Run([]Op{drop("t", "p"), step("t", 64), put("t", num(4), null(), null())}, known); x.Reply.Err != api.ErrForm || x.Reply.At != 2 {
			t.Errorf("it is undone with %s as a row behind it: %v", what, x)
		}
	}
	delete(l.store, string(key)) // an entry of an index without its row
	if x := Run([]Op{find("t", "g", 5)}, Known{Pairs: pairs(l.store, api.Range{}, nil)}); x.Reply.Err != api.ErrForm {
		t.Errorf("Find without the row: %v", x)
	}
}

func TestEntriesOfNothing(t *testing.T) { // P22.2, P1: entries of indexes whose values are no keys of rows
	l := indexed(t, unique("u", 1), catalog.Public)
	k := l.p["t"].entryKey(1, "", []any{int64(0), "n0", nil})
	for what, c := range map[string]struct {
		value []byte
		want  api.Errno
	}{"nothing": {nil, api.ErrForm}, "a table's entry": {catalog.Key("t"), api.ErrForm}, "itself": {[]byte(k), api.ErrForm}, "a key of 400 bytes": {make([]byte, 400), api.ErrForm}, "a key of 401 bytes": {make([]byte, 401), api.ErrSize}, "another row's": {[]byte(l.p["t"].keys()[3]), 0}} {
		l.store[k] = string(c.value)
		x := Run([]Op{find("t", "u", 1, text("n0"))}, Known{Pairs: pairs(l.store, api.Range{}, nil)})
		if x.Need != nil || x.Reply.Err != c.want {
			t.Errorf("Find with %s as the entry: %v", what, x)
		}
	}
}

func TestUndoOfLongEntries(t *testing.T) { // P22.2, P1: a key that is too long isn't written, were it to be taken away
	l := begin(t, 23)
	l.comes(0, 0, create(texts(plainly("p", 2, 3))), drop("t", "p"))
	list, _ := row.Entries(texts(), []byte{1}, []byte{1}, bytes.Repeat([]byte{1}, 200), bytes.Repeat([]byte{1}, 200))
	l.store[string(list[0].Key)] = string(list[0].Value)
	x := Run([]Op{step("t", 1)}, Known{Range: api.Range{Excl: true}, Pairs: pairs(l.store, api.Range{}, nil)})
	if !alike(x, Outcome{Reply: Reply{Err: api.ErrSize}}) {
		t.Errorf("Step = %v", x)
	}
}

func TestEntriesThatArentUnique(t *testing.T) { // P22.2: ErrUnique is of unique indexes alone, whatever is stored
	for _, x := range []api.Index{plainly("x", 1), unique("x", 1)} {
		l := begin(t, 24)
		l.comes(0, 0, create(with(people(), x)))
		list, _ := row.Entries(with(people(), x), int64(1), "a", nil)
		for value, want := range map[string]api.Errno{"another": api.ErrUnique, string(list[0].Key): 0} {
			if l.store[string(list[1].Key)] = value; !x.Unique {
				want = 0
			}
			got := Run([]Op{put("t", num(1), text("a"), null())}, Known{Range: api.Range{Excl: true}, Pairs: pairs(l.store, api.Range{}, nil)})
			if got.Reply.Err != want || want == 0 && len(got.Writes) != 2 {
				t.Errorf("Put where an entry %q is there already, unique %v = %v", value, x.Unique, got)
			}
		}
	}
}

func TestCursorsTooLong(t *testing.T) { // P22.4, P1: a row whose key is too long can't become a Cursor that isn't in form
	l := begin(t, 21)
	l.comes(0, 0, create(texts()), add("t", unique("u", 3)))
	for _, n := range []int{196, 197} {
		for i := range byte(3) {
			list, _ := row.Entries(texts(), bytes.Repeat([]byte{9}, 196), append(bytes.Repeat([]byte{9}, n-1), i), []byte{}, []byte{i, byte(n)})
			l.store[string(list[0].Key)] = string(list[0].Value)
		}
	}
	known := Known{Range: api.Range{Excl: true}, Pairs: pairs(l.store, api.Range{}, nil)}
	for most, want := range map[int]api.Errno{3: 0, 4: api.ErrSize, 5: api.ErrSize, 6: 0} {
		x := Run([]Op{step("t", most)}, known)
		if x.Reply.Err != want {
			t.Errorf("Step %d: %v", most, x.Reply)
		}
		for _, w := range x.Writes {
			if e, f := catalog.Decode(w.Value); bytes.Equal(w.Key, catalog.Key("t")) && (f != 0 || e.Name != "t") {
				t.Errorf("Step %d writes an entry that is none", most)
			}
		}
	}
}
