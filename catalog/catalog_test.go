package catalog

import (
	"bytes"
	"fmt"
	"math"
	"reflect"
	"slices"
	"strings"
	"testing"

	"caisson/api"
	"caisson/cell"
	"caisson/row"
)

// example is the table of the document's examples.
func example() api.Table {
	return api.Table{Id: 7, Name: "t", Cols: []api.Col{{Name: "id", Kind: api.Int}, {Name: "name", Kind: api.Text}}, Keys: 1}
}

// wide is a table with a column of each kind, a key of two columns, and three indexes.
func wide() api.Table {
	return api.Table{
		Id: 255, Name: "abcdefghijklmno9", Keys: 2,
		Cols: []api.Col{
			{Name: "a", Kind: api.Text}, {Name: "b", Kind: api.Bytes}, {Name: "c", Kind: api.Bool, Null: true}, {Name: "d", Kind: api.Int, Null: true}, {Name: "e", Kind: api.Text, Null: true},
		},
		Indexes: []api.Index{{Name: "x", Cols: []int{4, 0}}, {Name: "y", Cols: []int{2, 3}, Unique: true}, {Name: "z", Cols: []int{3}}},
	}
}

// greatest is a table that has as much of all as can be.
func greatest() api.Table {
	out := api.Table{Id: 254, Name: "abcdefghijklmnop", Keys: 16}
	var all []int
	for i := range 16 {
		out.Cols = append(out.Cols, api.Col{Name: fmt.Sprintf("column%010d", i), Kind: api.Bytes - i%4})
		all = append(all, 15-i)
	}
	for i := range 4 {
		out.Indexes = append(out.Indexes, api.Index{Name: fmt.Sprintf("index%011d", i), Cols: all, Unique: i%2 == 0})
	}
	return out
}

// wrong are tables that row.Check refuses, each with another error.
func wrong() []api.Table {
	size, form, there := wide(), wide(), wide()
	size.Cols = make([]api.Col, 17)
	form.Id = 0
	there.Indexes[2].Name = "x"
	return []api.Table{size, form, there, {}}
}

// entry is a table's entry whose last index is in this phase.
func entry(t api.Table, phase int, cursor ...byte) Entry {
	e := Entry{Table: t, States: make([]State, len(t.Indexes))}
	if phase != Public {
		e.States[len(e.States)-1] = State{Phase: phase, Cursor: cursor}
	}
	return e
}

// stored is what a row is stored as, all entries of indexes with it.
func stored(t *testing.T, table api.Table, values ...any) []api.Pair {
	t.Helper()
	list, e := row.Entries(table, values...)
	if e != 0 {
		t.Fatalf("Entries(%q) = %v", values, e)
	}
	return list
}

// pair is a row of the table of the examples, under its key.
func pair(t *testing.T, id int64, name string) api.Pair {
	t.Helper()
	return stored(t, example(), id, name)[0]
}

// answers looks whether a call answers this error.
func answers(t *testing.T, what string, got, want api.Errno) {
	t.Helper()
	if got != want {
		t.Errorf("%s = %v; want %v", what, got, want)
	}
}

// same: are these pairs alike, an empty list and nil too?
func same(a, b []api.Pair) bool {
	return slices.EqualFunc(a, b, func(x, y api.Pair) bool { return bytes.Equal(x.Key, y.Key) && bytes.Equal(x.Value, y.Value) })
}

// sameWrites: are these alike?
func sameWrites(a, b []api.Write) bool {
	return slices.EqualFunc(a, b, func(x, y api.Write) bool {
		return bytes.Equal(x.Key, y.Key) && bytes.Equal(x.Value, y.Value) && x.Gone == y.Gone
	})
}

// sameTable: are these alike, empty lists and nil too?
func sameTable(a, b api.Table) bool {
	sameIndex := func(x, y api.Index) bool {
		return x.Name == y.Name && slices.Equal(x.Cols, y.Cols) && x.Unique == y.Unique
	}
	return a.Id == b.Id && a.Name == b.Name && slices.Equal(a.Cols, b.Cols) && a.Keys == b.Keys && slices.EqualFunc(a.Indexes, b.Indexes, sameIndex)
}

// sameEntry: are these alike, empty lists and nil too?
func sameEntry(a, b Entry) bool {
	return sameTable(a.Table, b.Table) && slices.EqualFunc(a.States, b.States, func(x, y State) bool { return x.Phase == y.Phase && bytes.Equal(x.Cursor, y.Cursor) })
}

// isZero: has it nothing?
func isZero(e Entry) bool { return reflect.ValueOf(e).IsZero() }

// puts are the writes of pairs.
func puts(list ...api.Pair) []api.Write {
	var out []api.Write
	for _, p := range list {
		out = append(out, api.Write{Key: p.Key, Value: p.Value})
	}
	return out
}

// gone are the writes that take pairs away.
func gone(list ...api.Pair) []api.Write {
	var out []api.Write
	for _, p := range list {
		out = append(out, api.Write{Key: p.Key, Gone: true})
	}
	return out
}

func TestExamples(t *testing.T) { // P21.2 to P21.5
	e, f := New(example())
	if f != 0 || len(e.States) != 0 {
		t.Fatalf("New = %v, %v", e, f)
	}
	e, f = Add(e, api.Index{Name: "u", Cols: []int{1}, Unique: true})
	if f != 0 || len(e.Indexes) != 1 || len(e.States) != 1 || e.States[0].Phase != Building || string(e.States[0].Cursor) != "r\x07" {
		t.Fatalf("Add = %v, %v", e, f)
	}
	if l, f := Image(e, int64(1), "a"); f != 0 || !same(l, []api.Pair{pair(t, 1, "a")}) {
		t.Errorf("Image = %v, %v", l, f)
	}
	empty := e
	e, w, f := Build(e, []api.Pair{pair(t, 1, "a"), pair(t, 2, "b")}, false)
	two, three := pair(t, 2, "b").Key, pair(t, 3, "c")
	if f != 0 || !sameWrites(w, puts(stored(t, e.Table, int64(1), "a")[1], stored(t, e.Table, int64(2), "b")[1])) || e.States[0].Phase != Building || !bytes.Equal(e.States[0].Cursor, append(bytes.Clone(two), 0)) {
		t.Fatalf("Build = %v, %v, %v", e, w, f)
	}
	if !Maintains(e, 0, two) || Maintains(e, 0, three.Key) {
		t.Errorf("Maintains of 2: %v; of 3: %v", Maintains(e, 0, two), Maintains(e, 0, three.Key))
	}
	e, w, f = Build(e, []api.Pair{three}, true)
	if f != 0 || len(w) != 1 || e.States[0].Phase != Public || len(e.States[0].Cursor) != 0 {
		t.Errorf("Build = %v, %v, %v", e, w, f)
	}
	e, w, f = Build(empty, []api.Pair{pair(t, 1, "a"), pair(t, 2, "a")}, false)
	if f != 0 || len(w) != 0 || e.States[0].Phase != Undoing || string(e.States[0].Cursor) != "r\x07" {
		t.Errorf("Build of a clash = %v, %v, %v", e, w, f)
	}
	e, w, f = Undo(e, nil, true)
	if f != 0 || len(w) != 0 || len(e.Indexes) != 0 || len(e.States) != 0 || e.Name != "t" {
		t.Errorf("Undo = %v, %v, %v", e, w, f)
	}
}

func TestNew(t *testing.T) { // P21.1
	for _, table := range []api.Table{example(), wide(), greatest()} {
		e, f := New(table)
		if f != 0 || !sameEntry(e, entry(table, Public)) {
			t.Errorf("New(%v) = %v, %v", table, e, f)
		}
		answers(t, "Check of New", Check(e), 0)
	}
	for _, table := range wrong() {
		if e, f := New(table); f != row.Check(table) || f == 0 || !isZero(e) {
			t.Errorf("New(%v) = %v, %v", table, e, f)
		}
	}
}

// changed is an entry of the wide table with a change.
func changed(do func(e *Entry)) Entry {
	e := entry(wide(), Public)
	do(&e)
	return e
}

func TestCheck(t *testing.T) { // P21.1
	prefix := []byte{114, 255}
	long := func(n int) []byte { return append(bytes.Clone(prefix), make([]byte, n-2)...) }
	state := func(at, phase int, cursor []byte) Entry {
		return changed(func(e *Entry) { e.States[at] = State{Phase: phase, Cursor: cursor} })
	}
	for what, c := range map[string]struct {
		e    Entry
		want api.Errno
	}{
		"all Public": {state(2, Public, nil), 0}, "an empty Cursor": {state(2, Public, []byte{}), 0}, "Public with a Cursor": {state(2, Public, prefix), api.ErrForm}, "the first Public with a Cursor": {state(0, Public, prefix), api.ErrForm},
		"Building": {state(2, Building, prefix), 0}, "Undoing": {state(2, Undoing, prefix), 0}, "the phase 3": {state(2, 3, prefix), api.ErrForm}, "the phase -1": {state(2, -1, prefix), api.ErrForm}, "the phase 3 without a Cursor": {state(2, 3, nil), api.ErrForm}, "a great phase": {state(2, 1<<32+1, prefix), api.ErrForm}, "a phase of the first": {state(0, math.MinInt, nil), api.ErrForm},
		"Building without a Cursor": {state(2, Building, nil), api.ErrForm}, "Undoing without a Cursor": {state(2, Undoing, nil), api.ErrForm}, "half a prefix": {state(2, Building, []byte{114}), api.ErrForm}, "another table's prefix": {state(2, Building, []byte{114, 254}), api.ErrForm}, "another prefix": {state(2, Undoing, []byte{113, 255}), api.ErrForm},
		"Building at the end": {state(2, Building, []byte{115}), 0}, "Undoing at the end": {state(2, Undoing, []byte{115}), 0}, "behind the end": {state(2, Undoing, []byte{115, 0}), api.ErrForm}, "a beginning of the end": {state(2, Undoing, []byte{116}), api.ErrForm},
		"among the rows": {state(2, Building, []byte{114, 255, 3, 97, 0, 1}), 0}, "400 bytes": {state(2, Building, long(400)), 0}, "401 bytes": {state(2, Building, long(401)), 0}, "402 bytes": {state(2, Building, long(402)), api.ErrForm}, "401 bytes, Undoing": {state(2, Undoing, long(401)), 0}, "402 bytes, Undoing": {state(2, Undoing, long(402)), api.ErrForm},
		"the first Building": {state(0, Building, prefix), api.ErrForm}, "the second Undoing": {state(1, Undoing, prefix), api.ErrForm},
		"one state less": {changed(func(e *Entry) { e.States = e.States[:2] }), api.ErrForm}, "one state more": {changed(func(e *Entry) { e.States = append(e.States, State{}) }), api.ErrForm}, "no states": {changed(func(e *Entry) { e.States = nil }), api.ErrForm}, "states without indexes": {changed(func(e *Entry) { e.Indexes = nil }), api.ErrForm}, "neither": {changed(func(e *Entry) { e.Indexes, e.States = nil, nil }), 0},
		"one index less":              {changed(func(e *Entry) { e.Indexes = e.Indexes[:2] }), api.ErrForm},
		"two of a name, no states":    {changed(func(e *Entry) { e.Indexes[1].Name, e.States = "x", nil }), api.ErrThere},
		"17 columns, no states":       {changed(func(e *Entry) { e.Cols, e.States = make([]api.Col, 17), nil }), api.ErrSize},
		"the Id 0 and a wrong Cursor": {changed(func(e *Entry) { e.Id = 0; e.States[2] = State{Building, []byte{114, 0}} }), api.ErrForm},
		"another Id's Cursor":         {changed(func(e *Entry) { e.Id = 7; e.States[2] = State{Building, []byte{114, 8}} }), 0},
		"the zero entry":              {Entry{}, api.ErrForm},
	} {
		answers(t, what, Check(c.e), c.want)
	}
}

func TestKey(t *testing.T) { // P21.1
	for name, want := range map[string]string{"t": "ct\x00\x01", "": "c\x00\x01", "a\x00b": "ca\x00\xffb\x00\x01", "\xff": "c\xff\x00\x01", strings.Repeat("T", 500): "c" + strings.Repeat("T", 500) + "\x00\x01"} {
		if got := Key(name); string(got) != want {
			t.Errorf("Key(%.9q) = %q", name, got)
		}
	}
}

// entries are some in form.
func entries() []Entry {
	long := append([]byte{114, 254}, bytes.Repeat([]byte{255}, 399)...)
	one := wide()
	one.Indexes = one.Indexes[:1]
	return []Entry{
		entry(example(), Public), entry(wide(), Public), entry(greatest(), Public), entry(greatest(), Building, long...), entry(greatest(), Undoing, long...), entry(greatest(), Undoing, 114, 255),
		entry(wide(), Building, 114, 255), entry(wide(), Undoing, 115), entry(wide(), Building, 114, 255, 0, 0), entry(one, Undoing, 114, 255, 7),
		{Table: api.Table{Id: 1, Name: "a", Cols: []api.Col{{Name: "b", Kind: api.Bool}}, Keys: 1}},
	}
}

func TestEncode(t *testing.T) { // P21.1
	for _, e := range entries() {
		b := Encode(e)
		if got, f := Decode(b); f != 0 || !sameEntry(got, e) {
			t.Errorf("Decode(Encode(%v)) = %v, %v", e, got, f)
		}
		if len(b) > 1500 {
			t.Errorf("Encode(%v) has %d bytes", e, len(b))
		}
	}
}

// refused looks whether bytes are no entry's, or those of an entry in form.
func refused(t *testing.T, what string, b []byte) bool {
	t.Helper()
	e, f := Decode(b)
	if f == 0 {
		if Check(e) != 0 || !bytes.Equal(Encode(e), b) {
			t.Fatalf("Decode of %s = %v", what, e)
		}
		return false
	}
	if f != api.ErrForm && f != api.ErrEnd || !isZero(e) {
		t.Fatalf("Decode of %s = %v, %v", what, e, f)
	}
	return true
}

func TestDecodeOfOtherBytes(t *testing.T) { // P21.1
	for _, b := range [][]byte{nil, {0}, {1}, {1, 9}, {1, 0}, {9, 2, 128, 0, 0, 0, 0, 0, 0, 7}, bytes.Repeat([]byte{1, 0}, 40), make([]byte, 1<<16), bytes.Repeat([]byte{255}, 20)} {
		if !refused(t, "some bytes", b) {
			t.Errorf("Decode(%v) answers an entry", b)
		}
	}
	for _, e := range entries() {
		b := Encode(e)
		for n := range b {
			if !refused(t, "a beginning", b[:n]) && n > len(b)-3 {
				t.Errorf("the first %d of %d bytes are an entry's", n, len(b))
			}
			for bit := range 8 {
				other := bytes.Clone(b)
				other[n] ^= 1 << bit
				refused(t, "other bytes", other)
			}
		}
		for _, more := range [][]byte{{0}, {1, 0}, {1}, b} {
			if !refused(t, "bytes with more behind them", append(bytes.Clone(b), more...)) {
				t.Errorf("Decode of %v and %v answers an entry", e, more)
			}
		}
	}
}

func TestDecodeOfOtherValues(t *testing.T) { // P21.1: what isn't of the type that it must be, or is wanting, is no entry
	for _, e := range entries()[:9] {
		list, _ := cell.Decode(Encode(e))
		for i := range list {
			for _, other := range []any{nil, true, int64(-1), int64(3), int64(math.MinInt64), int64(1 << 62), int64(1<<32 + 7), "", "A", strings.Repeat("a", 17), []byte{}, []byte{200}, bytes.Repeat([]byte{114}, 500)} {
				values := slices.Clone(list)
				values[i] = other
				b, _ := cell.Encode(values...)
				mine, _ := cell.Kind(list[i])
				its, _ := cell.Kind(other)
				if refused(t, "other values", b); mine != its && !refused(t, "other values", b) {
					t.Fatalf("Decode with a %T in the place of %v answers an entry", other, list[i])
				}
			}
			short, _ := cell.Encode(slices.Delete(slices.Clone(list), i, i+1)...)
			long, _ := cell.Encode(slices.Insert(slices.Clone(list), i, list[i])...)
			if !refused(t, "a value less", short) || !refused(t, "a value twice", long) {
				t.Fatalf("Decode of other values answers an entry")
			}
		}
	}
}

func TestEncodeOfWhatIsntInForm(t *testing.T) { // P21.1, P1
	for _, e := range strange() {
		if !refused(t, "what isn't in form", Encode(e)) {
			t.Errorf("Encode(%v) is an entry's", e)
		}
	}
}

func TestMaintains(t *testing.T) { // P21.2
	cursor := []byte{114, 255, 3, 98}
	keys := [][]byte{nil, {0}, {114}, {114, 255}, {114, 255, 3, 97, 255}, {114, 255, 3, 98}, {114, 255, 3, 98, 0}, {114, 255, 4}, {115}, {255, 255}}
	for _, phase := range []int{Public, Building, Undoing} {
		e := entry(wide(), phase, cursor...)
		for _, i := range []int{math.MinInt, -1, 0, 1, 2, 3, math.MaxInt} {
			for n, key := range keys {
				want := i >= 0 && i <= 2 && (i < 2 || phase == Public || n < 5)
				if got := Maintains(e, i, key); got != want {
					t.Errorf("Maintains of the index %d, phase %d, of %v = %v", i, phase, key, got)
				}
			}
		}
	}
	for _, e := range strange() {
		for i := -1; i < 4; i++ {
			if Maintains(e, i, nil) {
				t.Errorf("Maintains of %v", e)
			}
		}
	}
}

// rowsOfWide are some rows of the wide table, by rising keys.
func rowsOfWide() [][]any {
	return [][]any{
		{"", []byte{}, nil, nil, nil}, {"a", []byte("x"), true, int64(1), "e"}, {"a", []byte("y"), true, nil, "e"}, {"A", []byte("x"), false, int64(1), ""}, {"b", []byte{0}, nil, int64(-1), nil}, {"\U0001f600", []byte{255}, false, int64(math.MaxInt64), "ä"},
	}
}

// has: by the words of the document, has the index the entry of a row with this key?
func has(e Entry, i int, key []byte) bool {
	return e.States[i].Phase == Public || bytes.Compare(key, e.States[i].Cursor) < 0
}

// plainImage is what a row is stored as, by the words of the document.
func plainImage(t *testing.T, e Entry, values ...any) []api.Pair {
	t.Helper()
	all := stored(t, e.Table, values...)
	out := all[:1:1]
	for i := range e.Indexes {
		if has(e, i, all[0].Key) {
			out = append(out, all[i+1])
		}
	}
	return out
}

// cursors are the entries of the wide table with its last index in each phase, and with Cursors ahead of, at and behind each row.
func cursors(t *testing.T) []Entry {
	out := []Entry{entry(wide(), Public)}
	places := [][]byte{{114, 255}, {115}}
	for _, values := range rowsOfWide() {
		key := stored(t, wide(), values...)[0].Key
		places = append(places, key, append(bytes.Clone(key), 0), append(bytes.Clone(key[:len(key)-1]), 2))
	}
	for _, phase := range []int{Building, Undoing} {
		for _, cursor := range places {
			out = append(out, entry(wide(), phase, cursor...))
		}
	}
	return out
}

func TestImage(t *testing.T) { // P21.2
	lengths := map[int]int{}
	for _, e := range cursors(t) {
		for _, values := range rowsOfWide() {
			got, f := Image(e, values...)
			if f != 0 || !same(got, plainImage(t, e, values...)) {
				t.Fatalf("Image(%q) with the Cursor %q = %v, %v", values, e.States[2].Cursor, got, f)
			}
			lengths[len(got)]++
		}
		for _, values := range badRows() {
			if got, f := Image(e, values...); got != nil || f == 0 || f != row.Fits(e.Table, values...) {
				t.Errorf("Image(%.20q) = %v, %v", values, got, f)
			}
		}
	}
	if len(lengths) != 2 || lengths[3] == 0 || lengths[4] == 0 {
		t.Errorf("images of so many pairs: %v", lengths)
	}
	for _, e := range strange() {
		for _, values := range append(rowsOfWide(), badRows()...) {
			if got, f := Image(e, values...); got != nil || f != Check(e) {
				t.Errorf("Image of %v = %v, %v", e, got, f)
			}
		}
	}
}

// badRows are some that don't fit the wide table.
func badRows() [][]any {
	return [][]any{{}, {"a"}, {"a", []byte("x")}, {"a", []byte("x"), nil, nil}, {"a", []byte("x"), nil, nil, nil, nil}, {nil, []byte("x"), nil, nil, nil}, {"a", "x", nil, nil, nil}, {"a", []byte("x"), nil, 5, nil}, {"\xff", []byte("x"), nil, nil, nil}, {"a", make([]byte, 201), nil, 5, nil}, {"a", []byte("x"), nil, nil, "\xff"}, {5, map[string]int{}, func() {}, nil, nil}}
}

func TestChanges(t *testing.T) { // P21.2
	list := append(rowsOfWide(), nil)
	list = append(list, []any{"a", []byte("x"), false, nil, "f"}, []any{"a", []byte("x"), true, int64(1), "E"}, []any{"b", []byte{0}, nil, int64(-1), "z"})
	list = append(list, badRows()...)
	seen := map[api.Errno]int{}
	for _, e := range cursors(t) {
		for _, old := range list {
			for _, new := range list {
				got, f := Changes(e, old, new)
				all, want := row.Changes(e.Table, old, new)
				seen[f]++
				if f != want || f != 0 && got != nil {
					t.Fatalf("Changes(%.20q, %.20q) = %v, %v; want %v", old, new, got, f, want)
				}
				all = slices.DeleteFunc(all, func(w api.Write) bool {
					values := append(slices.Clone(old), new...)[:5]
					i := int(w.Key[2])
					return w.Key[0] == 105 && !has(e, i, stored(t, e.Table, values...)[0].Key)
				})
				if !sameWrites(got, all) {
					t.Fatalf("Changes(%q, %q) with the Cursor %q = %v; want %v", old, new, e.States[2].Cursor, got, all)
				}
			}
		}
	}
	for _, f := range []api.Errno{api.OK, api.ErrArg, api.ErrSize, api.ErrForm, api.ErrType} {
		if seen[f] == 0 {
			t.Errorf("no Changes with the error %v", f)
		}
	}
	for _, e := range strange() {
		for _, old := range list[:9] {
			if got, f := Changes(e, old, list[3]); got != nil || f != Check(e) {
				t.Errorf("Changes of %v = %v, %v", e, got, f)
			}
		}
	}
}

func TestExpected(t *testing.T) { // P21.2
	var pairs []api.Pair
	for _, values := range rowsOfWide() {
		pairs = append(pairs, stored(t, wide(), values...)[0])
	}
	pairs = slices.Delete(pairs, 2, 4)
	list := append(rowsOfWide()[:2], rowsOfWide()[4:]...)
	for _, e := range cursors(t) {
		for n := range len(pairs) + 1 {
			var want []api.Pair
			for _, values := range list[:n] {
				want = append(want, plainImage(t, e, values...)[1:]...)
			}
			slices.SortFunc(want, func(a, b api.Pair) int { return bytes.Compare(a.Key, b.Key) })
			if got, f := Expected(e, pairs[:n]...); f != 0 || !same(got, want) {
				t.Fatalf("Expected of %d rows = %v, %v; want %v", n, got, f, want)
			}
		}
	}
}

func TestErrorsOfExpected(t *testing.T) { // P21.2
	table := example()
	table.Indexes = []api.Index{{Name: "u", Cols: []int{1}, Unique: true}, {Name: "p", Cols: []int{1}}}
	e := entry(table, Public)
	one, two, three := pair(t, 1, "a"), pair(t, 2, "b"), pair(t, 3, "a")
	odd := api.Pair{Key: two.Key, Value: one.Value}
	index := stored(t, table, int64(1), "a")[2]
	for what, c := range map[string]struct {
		rows []api.Pair
		want api.Errno
	}{
		"rows": {[]api.Pair{one, two}, 0}, "no rows": {nil, 0}, "a clash": {[]api.Pair{one, two, three}, api.ErrUnique}, "a row twice": {[]api.Pair{one, one}, api.ErrForm}, "falling keys": {[]api.Pair{two, one}, api.ErrForm}, "falling keys and a clash": {[]api.Pair{three, one}, api.ErrForm},
		"no row": {[]api.Pair{odd}, api.ErrForm}, "no row, last": {[]api.Pair{one, odd}, api.ErrForm}, "a clash and no row": {[]api.Pair{one, three, {Key: []byte{255}}}, api.ErrForm}, "an index's entry": {[]api.Pair{index}, api.ErrForm}, "nothing": {[]api.Pair{{}}, api.ErrForm},
	} {
		got, f := Expected(e, c.rows...)
		answers(t, "Expected of "+what, f, c.want)
		if f != 0 && got != nil {
			t.Errorf("Expected of %s = %v beside %v", what, got, f)
		}
	}
	if got, f := Expected(entry(example(), Public), one, three); f != 0 || len(got) != 0 {
		t.Errorf("Expected without an index = %v, %v", got, f)
	}
	table.Indexes = table.Indexes[:1]
	if got, f := Expected(entry(table, Building, three.Key...), one, three); f != 0 || len(got) != 1 { // a row that isn't among those that have entries clashes with nobody
		t.Errorf("Expected of a half = %v, %v", got, f)
	}
	for _, e := range strange() {
		if got, f := Expected(e, one, one); got != nil || f != Check(e) {
			t.Errorf("Expected of %v = %v, %v", e, got, f)
		}
	}
}

func TestAdd(t *testing.T) { // P21.3
	fine := api.Index{Name: "new", Cols: []int{4, 2}, Unique: true}
	for _, table := range []api.Table{example(), wide()} {
		x := fine
		x.Cols = []int{len(table.Cols) - 1}
		e, f := Add(entry(table, Public), x)
		want := table
		want.Indexes = append(slices.Clone(table.Indexes), x)
		if f != 0 || !sameEntry(e, entry(want, Building, 114, byte(table.Id))) {
			t.Errorf("Add = %v, %v", e, f)
		}
	}
	full := wide()
	full.Indexes = append(full.Indexes, api.Index{Name: "w", Cols: []int{1}})
	public, building, undoing := entry(wide(), Public), entry(wide(), Building, 114, 255), entry(wide(), Undoing, 115)
	for what, c := range map[string]struct {
		e    Entry
		x    api.Index
		want api.Errno
	}{
		"a name that is there": {public, api.Index{Name: "x", Cols: []int{0}}, api.ErrThere}, "a column's name": {public, api.Index{Name: "a", Cols: []int{0}}, 0}, "no columns": {public, api.Index{Name: "new"}, api.ErrForm}, "a place that is none": {public, api.Index{Name: "new", Cols: []int{5}}, api.ErrForm}, "a place twice": {public, api.Index{Name: "new", Cols: []int{1, 1}}, api.ErrForm}, "a wrong name": {public, api.Index{Name: "X", Cols: []int{1}}, api.ErrForm}, "a wrong form and a name that is there": {public, api.Index{Name: "x"}, api.ErrForm},
		"one building": {building, fine, api.ErrBusy}, "one being undone": {undoing, fine, api.ErrBusy}, "one building, a name that is there": {building, api.Index{Name: "z", Cols: []int{0}}, api.ErrThere}, "one building, no columns": {building, api.Index{Name: "new"}, api.ErrForm},
		"a fifth": {entry(full, Public), fine, api.ErrSize}, "a fifth, one building": {entry(full, Building, 114, 255), fine, api.ErrSize}, "a fifth of a wrong form": {entry(full, Public), api.Index{}, api.ErrSize}, "many columns": {public, api.Index{Name: "new", Cols: make([]int, 1000)}, api.ErrForm},
	} {
		e, f := Add(c.e, c.x)
		answers(t, "Add with "+what, f, c.want)
		if f != 0 && !isZero(e) {
			t.Errorf("Add with %s = %v beside %v", what, e, f)
		}
	}
	for _, e := range strange() {
		if got, f := Add(e, fine); !isZero(got) || f != Check(e) {
			t.Errorf("Add of %v = %v, %v", e, got, f)
		}
	}
}

func TestDrop(t *testing.T) { // P21.3
	among := []byte{114, 255, 9}
	for what, c := range map[string]struct {
		e, want Entry
	}{
		"a Public one": {entry(wide(), Public), entry(wide(), Undoing, 115)}, "one that is built": {entry(wide(), Building, among...), entry(wide(), Undoing, among...)}, "one that is undone": {entry(wide(), Undoing, among...), entry(wide(), Undoing, among...)},
	} {
		if e, f := Drop(c.e, "z"); f != 0 || !sameEntry(e, c.want) {
			t.Errorf("Drop of %s = %v, %v", what, e, f)
		}
		for name, want := range map[string]api.Errno{"x": api.ErrArg, "y": api.ErrArg, "w": api.ErrNone, "": api.ErrNone, "Z": api.ErrNone, strings.Repeat("z", 5000): api.ErrNone} {
			if e, f := Drop(c.e, name); f != want || !isZero(e) {
				t.Errorf("Drop(%.9q) of %s = %v, %v", name, what, e, f)
			}
		}
	}
	less := example()
	less.Indexes = []api.Index{{Name: "only", Cols: []int{0}}}
	if e, f := Drop(entry(less, Public), "only"); f != 0 || !sameEntry(e, entry(less, Undoing, 114, 8)) {
		t.Errorf("Drop = %v, %v", e, f)
	}
	if e, f := Drop(entry(example(), Public), "t"); f != api.ErrNone || !isZero(e) {
		t.Errorf("Drop without an index = %v, %v", e, f)
	}
	for _, e := range strange() {
		if got, f := Drop(e, "x"); !isZero(got) || f != Check(e) {
			t.Errorf("Drop of %v = %v, %v", e, got, f)
		}
	}
}

// strange are entries that aren't in form.
func strange() []Entry {
	out := []Entry{{}, {Table: example(), States: make([]State, 1)}, {States: []State{{Building, []byte{114, 0}}}}, {Table: wide()}, {Table: wide(), States: make([]State, 1<<16)}}
	for _, table := range wrong() {
		out = append(out, entry(table, Public))
	}
	for _, cursor := range [][]byte{nil, {114}, {114, 254, 0}, {115, 0}, {255}, append([]byte{114, 255}, make([]byte, 400)...)} {
		out = append(out, entry(wide(), Building, cursor...), entry(wide(), Undoing, cursor...), entry(wide(), 77, cursor...))
	}
	first := entry(wide(), Public)
	first.States[0] = State{Phase: Undoing, Cursor: []byte{115}}
	great := entry(wide(), Public)
	great.Indexes[0].Cols = make([]int, 1<<16)
	odd := entry(wide(), Public)
	odd.Cols[0].Kind, odd.Indexes[0].Cols[0] = math.MinInt, math.MaxInt
	return append(out, first, great, odd)
}
