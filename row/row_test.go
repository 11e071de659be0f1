package row

import (
	"bytes"
	"errors"
	"fmt"
	"maps"
	"math"
	"math/rand/v2"
	"regexp"
	"slices"
	"strings"
	"testing"
	"unicode/utf8"

	"caisson/api"
	"caisson/cell"
)

// named is no text, though made of one.
type named string

// example is the table of the document's examples.
func example() api.Table {
	return api.Table{
		Id: 7, Name: "t", Cols: []api.Col{{Name: "id", Kind: api.Int}, {Name: "name", Kind: api.Text, Null: true}}, Keys: 1,
		Indexes: []api.Index{{Name: "u", Cols: []int{1}, Unique: true}, {Name: "p", Cols: []int{1}}},
	}
}

// wide is a table with a column of each kind, both with and without Null, a key of three columns, and four indexes.
func wide() api.Table {
	return api.Table{
		Id: 255, Name: "wide0", Keys: 3,
		Cols: []api.Col{
			{Name: "a", Kind: api.Text}, {Name: "b", Kind: api.Bytes}, {Name: "c", Kind: api.Bool}, {Name: "d", Kind: api.Int, Null: true},
			{Name: "e", Kind: api.Text, Null: true}, {Name: "f", Kind: api.Bytes, Null: true}, {Name: "g", Kind: api.Bool, Null: true}, {Name: "h", Kind: api.Int},
		},
		Indexes: []api.Index{{Name: "x", Cols: []int{7, 0}}, {Name: "y", Cols: []int{3, 4, 5, 6}, Unique: true}, {Name: "wide0", Cols: []int{2, 1, 0}, Unique: true}, {Name: "a", Cols: []int{4}}},
	}
}

var plainName = regexp.MustCompile(`\A[a-z][a-z0-9]{0,15}\z`)

// plainCheck is Check, by the words of the document: all errors that apply, and of these the least.
func plainCheck(t api.Table) api.Errno {
	var found []api.Errno
	wrong := func(e api.Errno, is bool) {
		if is {
			found = append(found, e)
		}
	}
	wrong(2, len(t.Cols) > 16 || len(t.Indexes) > 4)
	wrong(3, t.Id < 1 || t.Id > 255 || !plainName.MatchString(t.Name) || len(t.Cols) < 1 || t.Keys < 1 || t.Keys > len(t.Cols))
	names := map[string]int{}
	for i, c := range t.Cols {
		wrong(3, !plainName.MatchString(c.Name) || c.Kind < 1 || c.Kind > 4 || i < t.Keys && c.Null)
		names[c.Name]++
		wrong(7, names[c.Name] > 1)
	}
	clear(names)
	for _, x := range t.Indexes {
		wrong(3, !plainName.MatchString(x.Name) || len(x.Cols) < 1)
		names[x.Name]++
		wrong(7, names[x.Name] > 1)
		places := map[int]int{}
		for _, c := range x.Cols {
			places[c]++
			wrong(3, c < 0 || c >= len(t.Cols) || places[c] > 1)
		}
	}
	if len(found) == 0 {
		return 0
	}
	return slices.Min(found)
}

// plainFit are the errors of a value in a column, by the words of the document.
func plainFit(c api.Col, v any) []api.Errno {
	var found []api.Errno
	kind := -1
	switch x := v.(type) {
	case nil:
		kind = 0
	case bool:
		kind = 1
	case int64:
		kind = 2
	case string:
		kind = 3
		if utf8.RuneCountInString(x) > 200 {
			found = append(found, 2)
		}
		if !utf8.ValidString(x) {
			found = append(found, 3)
		}
	case []byte:
		kind = 4
		if len(x) > 200 {
			found = append(found, 2)
		}
	}
	if kind != c.Kind && (kind != 0 || !c.Null) {
		found = append(found, 10)
	}
	return found
}

// plainFits is the error of values in columns, as many.
func plainFits(cols []api.Col, row []any) api.Errno {
	if len(row) != len(cols) {
		return 1
	}
	var found []api.Errno
	for i, v := range row {
		found = append(found, plainFit(cols[i], v)...)
	}
	if len(found) == 0 {
		return 0
	}
	return slices.Min(found)
}

// answers looks whether a call answers this error.
func answers(t *testing.T, what string, got, want api.Errno) {
	t.Helper()
	if got != want {
		t.Errorf("%s = %v; want %v", what, got, want)
	}
}

// change is a change of a table.
type change struct {
	what string
	do   func(t *api.Table)
}

// cols are so many columns in form.
func cols(n int) []api.Col {
	var out []api.Col
	for i := range n {
		out = append(out, api.Col{Name: fmt.Sprintf("c%d", i), Kind: api.Bool + i%4})
	}
	return out
}

// indexes are so many indexes in form.
func indexes(n int) []api.Index {
	var out []api.Index
	for i := range n {
		out = append(out, api.Index{Name: fmt.Sprintf("i%d", i), Cols: []int{0}})
	}
	return out
}

// changes are some of a table with two columns and two indexes at least: harmless ones, and others.
func changes() []change {
	out := []change{
		{"16 columns", func(t *api.Table) { t.Cols = cols(16) }}, {"17 columns", func(t *api.Table) { t.Cols = cols(17) }}, {"1000 columns", func(t *api.Table) { t.Cols = cols(1000) }}, {"no columns", func(t *api.Table) { t.Cols = nil }}, {"one column", func(t *api.Table) { t.Cols = cols(1) }},
		{"4 indexes", func(t *api.Table) { t.Indexes = indexes(4) }}, {"5 indexes", func(t *api.Table) { t.Indexes = indexes(5) }}, {"no indexes", func(t *api.Table) { t.Indexes = nil }},
		{"two columns of a name", func(t *api.Table) { t.Cols[1].Name = t.Cols[0].Name }}, {"the last and the first column of a name", func(t *api.Table) { t.Cols[len(t.Cols)-1].Name = t.Cols[0].Name }}, {"two indexes of a name", func(t *api.Table) { t.Indexes[1].Name = t.Indexes[0].Name }}, {"an index with a column's name", func(t *api.Table) { t.Indexes[0].Name = t.Cols[0].Name }}, {"a column with the table's name", func(t *api.Table) { t.Cols[0].Name = t.Name }},
		{"two columns of a wrong name", func(t *api.Table) { t.Cols[0].Name, t.Cols[1].Name = "A", "A" }}, {"two columns without a name", func(t *api.Table) { t.Cols[0].Name, t.Cols[1].Name = "", "" }}, {"two indexes of a wrong name", func(t *api.Table) { t.Indexes[0].Name, t.Indexes[1].Name = "9", "9" }},
		{"a key that may be Null", func(t *api.Table) { t.Cols[0].Null = true }}, {"two keys, one may be Null", func(t *api.Table) { t.Keys = 2; t.Cols[1].Null = true }}, {"two keys", func(t *api.Table) { t.Keys = 2; t.Cols[1].Null = false }}, {"all are keys", func(t *api.Table) { t.Keys = len(t.Cols) }}, {"one key more than columns", func(t *api.Table) { t.Keys = len(t.Cols) + 1 }},
		{"an index without columns", func(t *api.Table) { t.Indexes[1].Cols = nil }}, {"a place below 0", func(t *api.Table) { t.Indexes[1].Cols = []int{0, -1} }}, {"a place above", func(t *api.Table) { t.Indexes[0].Cols = []int{len(t.Cols)} }}, {"the last place", func(t *api.Table) { t.Indexes[0].Cols = []int{len(t.Cols) - 1} }}, {"a place twice", func(t *api.Table) { t.Indexes[0].Cols = []int{0, 1, 0} }}, {"a place twice at once", func(t *api.Table) { t.Indexes[0].Cols = []int{1, 1} }}, {"places that fall", func(t *api.Table) { t.Indexes[0].Cols = []int{1, 0} }}, {"many places", func(t *api.Table) { t.Indexes[0].Cols = make([]int, 1000) }}, {"great places", func(t *api.Table) { t.Indexes[0].Cols = []int{math.MaxInt, math.MinInt} }},
		{"the same places in two", func(t *api.Table) { t.Indexes[0].Cols, t.Indexes[1].Cols = []int{1, 0}, []int{1, 0} }}, {"the other Unique", func(t *api.Table) { t.Indexes[0].Unique = !t.Indexes[0].Unique }},
	}
	for _, id := range []int{math.MinInt, -1, 0, 1, 2, 254, 255, 256, 257, 1<<32 + 7, math.MaxInt} {
		out = append(out, change{fmt.Sprint("the Id ", id), func(t *api.Table) { t.Id = id }})
	}
	for _, n := range []int{math.MinInt, -1, 0, math.MaxInt} {
		out = append(out, change{fmt.Sprint("the Keys ", n), func(t *api.Table) { t.Keys = n }})
	}
	for _, kind := range []int{math.MinInt, -1, 0, 1, 2, 3, 4, 5, 256 + 2, 1<<32 + 2, math.MaxInt} {
		out = append(out, change{fmt.Sprint("the kind ", kind), func(t *api.Table) { t.Cols[len(t.Cols)-1].Kind = kind }})
	}
	for _, name := range []string{"", "a", "z", "`", "{", "A", "Z", "0", "9", "_", " ", "a0", "a9", "a/", "a:", "aA", "a_", "a ", " a", "a\n", "a\x00", "aé", "é", "\xff", "a\xff", "ａ", "a١", "abcdefghijklmnop", "abcdefghijklmnopq", "a12345678901234", "a123456789012345", "a1234567890123456", "abcdefghijklmné", strings.Repeat("a", 5000)} {
		out = append(out, change{fmt.Sprintf("the name %q", name), func(t *api.Table) { t.Name = name }})
		out = append(out, change{fmt.Sprintf("the column %q", name), func(t *api.Table) { t.Cols[1].Name = name }})
		out = append(out, change{fmt.Sprintf("the index %q", name), func(t *api.Table) { t.Indexes[1].Name = name }})
	}
	return out
}

// changed is a table with changes, as far as they can be done.
func changed(table api.Table, list ...change) (out api.Table, ok bool) {
	out = table
	defer func() {
		if recover() != nil {
			ok = false
		}
	}()
	for _, c := range list {
		c.do(&out)
	}
	return out, true
}

func TestCheck(t *testing.T) { // P14.1
	for what, table := range map[string]api.Table{"the example": example(), "a wide one": wide(), "the least": {Id: 1, Name: "a", Cols: cols(1), Keys: 1}, "the greatest": {Id: 255, Name: "abcdefghijklmno9", Cols: cols(16), Keys: 16, Indexes: indexes(4)}} {
		answers(t, what, Check(table), api.OK)
	}
	for what, c := range map[string]struct {
		do   func(t *api.Table)
		want api.Errno
	}{
		"17 columns": {func(t *api.Table) { t.Cols = cols(17) }, api.ErrSize}, "5 indexes": {func(t *api.Table) { t.Indexes = indexes(5) }, api.ErrSize}, "17 columns and more": {func(t *api.Table) { t.Cols, t.Id, t.Indexes[0].Name = cols(17), 0, "p" }, api.ErrSize},
		"the Id 0": {func(t *api.Table) { t.Id = 0 }, api.ErrForm}, "the Id 256": {func(t *api.Table) { t.Id = 256 }, api.ErrForm}, "a long name": {func(t *api.Table) { t.Name = "abcdefghijklmnopq" }, api.ErrForm}, "Null in the key": {func(t *api.Table) { t.Cols[0].Null = true }, api.ErrForm},
		"two columns of a name": {func(t *api.Table) { t.Cols[0].Name = "name" }, api.ErrThere}, "two indexes of a name": {func(t *api.Table) { t.Indexes[0].Name = "p" }, api.ErrThere}, "a name twice, and no Keys": {func(t *api.Table) { t.Indexes[0].Name, t.Keys = "p", 0 }, api.ErrForm},
	} {
		table := example()
		c.do(&table)
		answers(t, what, Check(table), c.want)
	}
	counts := map[api.Errno]int{}
	for _, base := range []func() api.Table{example, wide} {
		for _, a := range changes() {
			for _, b := range append(changes(), a) {
				table, ok := changed(base(), a, b)
				if !ok {
					continue
				}
				want := plainCheck(table)
				counts[want]++
				answers(t, "Check with "+a.what+" and "+b.what, Check(table), want)
			}
		}
	}
	for _, e := range []api.Errno{api.OK, api.ErrSize, api.ErrForm, api.ErrThere} {
		if counts[e] < 50 {
			t.Errorf("%d of the tables have the error %v", counts[e], e)
		}
	}
	answers(t, "the zero table", Check(api.Table{}), api.ErrForm)
}

// values are some of all kinds, and some that are none.
func values() []any {
	return []any{
		nil, false, true, int64(0), int64(-1), int64(5), int64(math.MinInt64), int64(math.MaxInt64),
		"", "a", "A", "b", "a\x00", "é", "\ufffd", strings.Repeat("a", 200), strings.Repeat("ä", 200), strings.Repeat("\U0001f600", 200), strings.Repeat("\x00", 200),
		strings.Repeat("a", 201), strings.Repeat("ä", 201), strings.Repeat("a", 5000), "\xff", "a\xffb", "\xed\xa0\x80", "\xc0\x80", "a\xc3", strings.Repeat("\xff", 200), strings.Repeat("\xff", 201), strings.Repeat("a", 200) + "\xff", strings.Repeat("ä", 199) + "\xc3",
		[]byte{}, []byte(nil), []byte{0}, []byte{0, 255}, []byte("a"), make([]byte, 200), make([]byte, 201), make([]byte, 5000),
		5, uint8(1), uint64(5), 1.5, named("a"), []any{nil}, errors.New("a"), api.Cell{}, &struct{}{}, [1]byte{1}, []string{"a"}, api.OK, func() {}, map[string]int{},
	}
}

// good is a value that fits a column.
func good(c api.Col) any {
	return []any{nil, true, int64(7), "good", []byte("good")}[c.Kind]
}

func TestFits(t *testing.T) { // P14.1
	table := example()
	for _, c := range []struct {
		row  []any
		want api.Errno
	}{
		{[]any{int64(5), "a"}, 0}, {[]any{int64(5), nil}, 0}, {[]any{int64(5), "\xff"}, api.ErrForm}, {[]any{int64(5), strings.Repeat("ä", 201)}, api.ErrSize}, {[]any{int64(5), strings.Repeat("ä", 200)}, 0}, {[]any{nil, nil}, api.ErrType},
		{nil, api.ErrArg}, {[]any{int64(5)}, api.ErrArg}, {[]any{int64(5), "a", nil}, api.ErrArg}, {[]any{"\xff"}, api.ErrArg}, {[]any{5, "a"}, api.ErrType}, {[]any{5, "\xff"}, api.ErrForm}, {[]any{"\xff", strings.Repeat("a", 201)}, api.ErrSize}, {[]any{int64(5), make([]byte, 201)}, api.ErrSize}, {[]any{int64(5), make([]byte, 200)}, api.ErrType}, {[]any{int64(5), named("a")}, api.ErrType}, {[]any{int64(5), strings.Repeat("\xff", 201)}, api.ErrSize},
	} {
		answers(t, fmt.Sprintf("Fits(%.20q)", c.row), Fits(table, c.row...), c.want)
	}
	for _, table := range []api.Table{example(), wide()} {
		for i := range table.Cols {
			for _, v := range values() {
				for j := range table.Cols {
					for _, w := range []any{good(table.Cols[j]), nil, 5, "\xff", make([]byte, 201)} {
						row := rowOf(table)
						row[i] = v
						if j != i {
							row[j] = w
						}
						answers(t, fmt.Sprintf("Fits with %T %.20q at %d and %.20q at %d", v, v, i, w, j), Fits(table, row...), plainFits(table.Cols, row))
					}
				}
			}
		}
		for _, c := range changes() {
			if table, ok := changed(table, c); ok && plainCheck(table) != 0 {
				answers(t, "Fits with "+c.what, Fits(table, rowOf(table)...), plainCheck(table))
				answers(t, "Fits of none with "+c.what, Fits(table), plainCheck(table))
			}
		}
	}
}

// rowOf is a row that fits a table, as far as there is one.
func rowOf(table api.Table) []any {
	var out []any
	for _, c := range table.Cols {
		if c.Kind < 1 || c.Kind > 4 {
			c.Kind = 0
		}
		out = append(out, good(c))
	}
	return out
}

func TestPrefixes(t *testing.T) { // P14.2
	for id := -300; id < 600; id++ {
		table := api.Table{Id: id}
		low := byte(uint(id) % 256)
		if got := Prefix(table); !bytes.Equal(got, []byte{114, low}) {
			t.Errorf("Prefix of %d = %v", id, got)
		}
		for _, i := range []int{math.MinInt, -1, 0, 1, 3, 255, 256, 259, math.MaxInt} {
			if got := IndexPrefix(table, i); !bytes.Equal(got, []byte{105, low, byte(uint(i) % 256)}) {
				t.Errorf("IndexPrefix of %d, %d = %v", id, i, got)
			}
		}
	}
	if got := Prefix(api.Table{Id: math.MinInt}); !bytes.Equal(got, []byte{114, 0}) {
		t.Errorf("Prefix = %v", got)
	}
}

func TestKeys(t *testing.T) { // P14.2
	table := example()
	five := []byte{114, 7, 2, 128, 0, 0, 0, 0, 0, 0, 5}
	long := strings.Repeat("a", 201)
	for _, c := range []struct {
		row  []any
		want []byte
		e    api.Errno
	}{
		{[]any{int64(5)}, five, 0}, {[]any{int64(5), nil}, five, 0}, {[]any{int64(5), "a"}, five, 0}, {[]any{"a"}, nil, api.ErrType}, {nil, nil, api.ErrArg}, {[]any{int64(5), nil, nil}, nil, api.ErrArg},
		{[]any{int64(5), "\xff"}, nil, api.ErrForm}, {[]any{int64(5), long}, nil, api.ErrSize}, {[]any{int64(5), true}, nil, api.ErrType}, {[]any{nil}, nil, api.ErrType}, {[]any{nil, "\xff"}, nil, api.ErrForm}, {[]any{"\xff"}, nil, api.ErrForm}, {[]any{long}, nil, api.ErrSize}, {[]any{5}, nil, api.ErrType},
	} {
		got, e := Key(table, c.row...)
		if !bytes.Equal(got, c.want) || e != c.e {
			t.Errorf("Key(%.20q) = %v, %v; want %v, %v", c.row, got, e, c.want, c.e)
		}
	}
	for _, base := range []api.Table{example(), wide()} {
		for _, c := range changes() {
			table, ok := changed(base, c)
			if !ok {
				continue
			}
			whole := append(rowOf(table), nil)
			for n := range len(whole) {
				row := whole[:n]
				want := plainCheck(table)
				if n != table.Keys && n != len(table.Cols) {
					want = api.ErrArg
				}
				if _, e := Key(table, row...); e != want && !(want == 0 && e == plainFits(table.Cols[:n], row)) {
					t.Errorf("Key of %d values with %s = %v; want %v", n, c.what, e, want)
				}
			}
		}
	}
}

func TestOrderOfKeys(t *testing.T) { // P14.2
	table := wide()
	var rows [][]any
	for _, a := range []any{"", "a", "A", "a\x00", "ab", "\x00", "é", "É", "b"} {
		for _, b := range []any{[]byte{}, []byte{0}, []byte{0, 0}, []byte{0, 1}, []byte{255}} {
			for _, c := range []any{false, true} {
				rows = append(rows, []any{a, b, c})
			}
		}
	}
	order := func(x, y []any) int {
		for i := range x {
			if n, _ := cell.Compare(x[i], y[i]); n != 0 {
				return n
			}
		}
		return 0
	}
	for _, x := range rows {
		k, e := Key(table, x...)
		if e != 0 || !bytes.HasPrefix(k, Prefix(table)) {
			t.Fatalf("Key(%q) = %v, %v", x, k, e)
		}
		whole := append(slices.Clone(x), nil, nil, nil, nil, int64(1))
		if again, e := Key(table, whole...); e != 0 || !bytes.Equal(k, again) {
			t.Fatalf("Key(%q) = %v, %v; want %v", whole, again, e, k)
		}
		for _, y := range rows {
			l, _ := Key(table, y...)
			if bytes.Compare(k, l) != order(x, y) {
				t.Fatalf("the keys of %q and %q aren't in their order", x, y)
			}
		}
	}
}

// plainEntries is what a row that fits is stored as, by the words of the document.
func plainEntries(table api.Table, row []any) []api.Pair {
	first, _ := cell.Key(row[:table.Keys]...)
	key := append([]byte{114, byte(table.Id)}, first...)
	value, _ := cell.Encode(row...)
	out := []api.Pair{{Key: key, Value: value}}
	for i, x := range table.Indexes {
		var list []any
		for _, c := range x.Cols {
			list = append(list, row[c])
		}
		sorted, _ := cell.Key(list...)
		k := append([]byte{105, byte(table.Id), byte(i)}, sorted...)
		if !x.Unique {
			k = append(k, key...)
		}
		out = append(out, api.Pair{Key: k, Value: key})
	}
	return out
}

// same: are these alike, an empty list and nil too?
func same(a, b []api.Pair) bool {
	return slices.EqualFunc(a, b, func(x, y api.Pair) bool { return bytes.Equal(x.Key, y.Key) && bytes.Equal(x.Value, y.Value) })
}

// alike: are these rows the same?
func alike(a, b []any) bool {
	return slices.EqualFunc(a, b, func(x, y any) bool {
		n, e := cell.Compare(x, y)
		return n == 0 && e == 0
	})
}

// rows are some that fit a table, some of them with the same key.
func rows(table api.Table, n int) [][]any {
	r := rand.New(rand.NewPCG(14, uint64(table.Id)))
	var out [][]any
	for range n {
		row := rowOf(table)
		for i, c := range table.Cols {
			var fitting []any
			for _, v := range values() {
				if len(plainFit(c, v)) == 0 {
					fitting = append(fitting, v)
				}
			}
			if pick := r.IntN(len(fitting) + 3); pick < len(fitting) {
				row[i] = fitting[pick]
			}
		}
		out = append(out, row)
		other := slices.Clone(row)
		for i := table.Keys; i < len(row); i++ {
			if v := good(table.Cols[i]); r.IntN(2) == 0 {
				other[i] = v
			}
		}
		out = append(out, other)
	}
	return out
}

func TestEntries(t *testing.T) { // P14.3
	key := []byte{114, 7, 2, 128, 0, 0, 0, 0, 0, 0, 5}
	got, e := Entries(example(), int64(5), nil)
	want := []api.Pair{{Key: key, Value: []byte{9, 2, 128, 0, 0, 0, 0, 0, 0, 5, 1, 0}}, {Key: []byte{105, 7, 0, 0}, Value: key}, {Key: append([]byte{105, 7, 1, 0}, key...), Value: key}}
	if e != 0 || !same(got, want) {
		t.Errorf("Entries(5, nil) = %v, %v; want %v", got, e, want)
	}
	for _, table := range []api.Table{example(), wide(), {Id: 1, Name: "a", Cols: cols(1), Keys: 1}, {Id: 9, Name: "all", Cols: cols(16), Keys: 16, Indexes: indexes(4)}} {
		for _, row := range rows(table, 60) {
			got, e := Entries(table, row...)
			if e != 0 || !same(got, plainEntries(table, row)) {
				t.Fatalf("Entries(%q) = %v, %v", row, got, e)
			}
			if k, e := Key(table, row...); e != 0 || !bytes.Equal(k, got[0].Key) {
				t.Fatalf("Key(%q) = %v, %v", row, k, e)
			}
			back, e := Row(table, got[0])
			if e != 0 || !alike(back, row) {
				t.Fatalf("Row(Entries(%q)) = %q, %v", row, back, e)
			}
		}
	}
	for _, row := range [][]any{nil, {int64(5)}, {int64(5), "a", nil}, {5, "a"}, {nil, nil}, {int64(5), "\xff"}, {int64(5), strings.Repeat("a", 201)}, {"\xff", make([]byte, 201)}} {
		if got, e := Entries(example(), row...); got != nil || e != plainFits(example().Cols, row) {
			t.Errorf("Entries(%.20q) = %v, %v", row, got, e)
		}
	}
}

func TestErrorsOfTables(t *testing.T) { // P14.3, P14.4
	for _, base := range []api.Table{example(), wide()} {
		row := rowOf(base)
		entries, _ := Entries(base, row...)
		for _, c := range changes() {
			table, ok := changed(base, c)
			want := plainCheck(table)
			if !ok || want == 0 {
				continue
			}
			if got, e := Entries(table, row...); got != nil || e != want {
				t.Errorf("Entries with %s = %v, %v", c.what, got, e)
			}
			for _, p := range append(entries, api.Pair{}) {
				if got, e := Row(table, p); got != nil || e != want {
					t.Errorf("Row with %s = %v, %v", c.what, got, e)
				}
			}
			for _, old := range [][]any{nil, row, {5}} {
				if got, e := Changes(table, old, row); got != nil || e != want {
					t.Errorf("Changes with %s = %v, %v", c.what, got, e)
				}
			}
			if got, e := Changes(table, nil, nil); got != nil || e != want {
				t.Errorf("Changes of none with %s = %v, %v", c.what, got, e)
			}
		}
	}
}

func TestRowOfWhatIsNone(t *testing.T) { // P14.3
	table := example()
	row := []any{int64(5), "a"}
	stored, _ := Entries(table, row...)
	key, value := stored[0].Key, stored[0].Value
	encode := func(row ...any) []byte {
		b, _ := cell.Encode(row...)
		return b
	}
	other, _ := Key(table, int64(6))
	elsewhere := table
	elsewhere.Id = 8
	moved, _ := Key(elsewhere, int64(5))
	for what, p := range map[string]api.Pair{
		"nothing": {}, "no value": {Key: key}, "no key": {Value: value}, "another key": {Key: other, Value: value}, "another table's key": {Key: moved, Value: value}, "a longer key": {Key: append(slices.Clone(key), 0), Value: value}, "a shorter key": {Key: key[:len(key)-1], Value: value}, "the entry of an index": stored[1], "of another index": stored[2], "an index's key": {Key: stored[1].Key, Value: value},
		"a longer value": {Key: key, Value: append(slices.Clone(value), 0)}, "a shorter value": {Key: key, Value: value[:len(value)-1]}, "a value cut behind a part": {Key: key, Value: value[:10]}, "values of another row": {Key: key, Value: encode(int64(6), "a")}, "too few values": {Key: key, Value: encode(int64(5))}, "too many values": {Key: key, Value: encode(int64(5), "a", nil)}, "another kind": {Key: key, Value: encode(int64(5), true)}, "another kind in the key": {Key: key, Value: encode("5", "a")}, "Null in the key": {Key: key, Value: encode(nil, "a")}, "a text that is too long": {Key: key, Value: encode(int64(5), strings.Repeat("a", 201))}, "a text that isn't valid": {Key: key, Value: encode(int64(5), "\xff")}, "bytes that are too long": {Key: key, Value: encode(int64(5), make([]byte, 201))}, "no frame": {Key: key, Value: []byte{200}}, "a longer number ahead of a part": {Key: key, Value: append([]byte{137, 0}, value[1:]...)}, "an empty part": {Key: key, Value: append(slices.Clone(value[:10]), 0)}, "the kind 5": {Key: key, Value: append(slices.Clone(value[:10]), 1, 5)},
	} {
		if got, e := Row(table, p); got != nil || e != api.ErrForm {
			t.Errorf("Row of %s = %q, %v", what, got, e)
		}
	}
	for at := range key {
		for bit := range 8 {
			p := api.Pair{Key: slices.Clone(key), Value: value}
			p.Key[at] ^= 1 << bit
			if got, e := Row(table, p); got != nil || e != api.ErrForm {
				t.Errorf("Row of another key = %q, %v", got, e)
			}
		}
	}
	for at := range value {
		for bit := range 8 {
			p := api.Pair{Key: key, Value: slices.Clone(value)}
			p.Value[at] ^= 1 << bit
			got, e := Row(table, p)
			if e == 0 { // another text, perhaps
				again, _ := Entries(table, got...)
				if !same(again[:1], []api.Pair{p}) {
					t.Errorf("Row of another value = %q, %v", got, e)
				}
			} else if got != nil || e != api.ErrForm {
				t.Errorf("Row of another value = %q, %v", got, e)
			}
		}
	}
}

// stands is what lies there.
func stands(list []api.Pair) map[string]string {
	out := map[string]string{}
	for _, p := range list {
		out[string(p.Key)] = string(p.Value)
	}
	return out
}

// turns looks whether writes turn what one row is stored as into what the other one is, and change something each.
func turns(t *testing.T, table api.Table, old, new []any, writes []api.Write) {
	t.Helper()
	var before, after []api.Pair
	if len(old) > 0 {
		before = plainEntries(table, old)
	}
	if len(new) > 0 {
		after = plainEntries(table, new)
	}
	has := stands(before)
	for i, w := range writes {
		if i > 0 && bytes.Compare(writes[i-1].Key, w.Key) >= 0 {
			t.Fatalf("Changes(%q, %q): the keys don't rise", old, new)
		}
		value, there := has[string(w.Key)]
		if w.Gone && (!there || len(w.Value) > 0) || !w.Gone && there && value == string(w.Value) {
			t.Fatalf("Changes(%q, %q): the write %v changes nothing of %q", old, new, w, value)
		}
		if w.Gone {
			delete(has, string(w.Key))
		} else {
			has[string(w.Key)] = string(w.Value)
		}
	}
	if !maps.Equal(has, stands(after)) {
		t.Fatalf("Changes(%q, %q) = %v", old, new, writes)
	}
}

func TestChanges(t *testing.T) { // P14.4
	table := example()
	row := []any{int64(5), "a"}
	key, _ := Key(table, int64(5))
	got, e := Changes(table, nil, row)
	if turns(t, table, nil, row, got); e != 0 || len(got) != 3 {
		t.Errorf("Changes to a row = %v, %v", got, e)
	}
	got, e = Changes(table, row, []any{})
	if turns(t, table, row, nil, got); e != 0 || len(got) != 3 {
		t.Errorf("Changes from a row = %v, %v", got, e)
	}
	got, e = Changes(table, row, row)
	if e != 0 || len(got) != 0 {
		t.Errorf("no Changes = %v, %v", got, e)
	}
	if got, e = Changes(table, []any{}, nil); e != 0 || len(got) != 0 {
		t.Errorf("Changes of none = %v, %v", got, e)
	}
	got, e = Changes(table, row, []any{int64(5), "b"})
	if turns(t, table, row, []any{int64(5), "b"}, got); e != 0 || len(got) != 5 || !bytes.Equal(got[4].Key, key) {
		t.Errorf("Changes = %v, %v", got, e)
	}
	if got, e = Changes(table, row, []any{int64(6), "a"}); got != nil || e != api.ErrArg {
		t.Errorf("Changes of unlike keys = %v, %v", got, e)
	}
	for _, table := range []api.Table{example(), wide(), {Id: 1, Name: "a", Cols: cols(1), Keys: 1}, {Id: 9, Name: "all", Cols: cols(16), Keys: 15, Indexes: indexes(4)}} {
		list := append(rows(table, 25), nil)
		for _, old := range list {
			for _, new := range list {
				got, e := Changes(table, old, new)
				if len(old) > 0 && len(new) > 0 && !alike(old[:table.Keys], new[:table.Keys]) {
					if got != nil || e != api.ErrArg {
						t.Fatalf("Changes(%q, %q) = %v, %v", old, new, got, e)
					}
					continue
				}
				if e != 0 {
					t.Fatalf("Changes(%q, %q) = %v", old, new, e)
				}
				turns(t, table, old, new, got)
			}
		}
	}
}

func TestErrorsOfChanges(t *testing.T) { // P14.4: the first that applies
	table := example()
	fine, other := []any{int64(5), "a"}, []any{int64(6), "a"}
	list := [][]any{nil, {}, fine, other, {int64(5)}, {nil, nil}, {5, "a"}, {int64(5), "\xff"}, {int64(6), strings.Repeat("a", 201)}, {int64(5), "a", "a"}, {"\xff", "a"}, {nil}}
	errorOf := func(row []any) api.Errno {
		if len(row) == 0 {
			return 0
		}
		return plainFits(table.Cols, row)
	}
	for i, old := range list {
		for j, new := range list {
			want := errorOf(old)
			if want == 0 {
				want = errorOf(new)
			}
			if want == 0 && (i == 2 && j == 3 || i == 3 && j == 2) {
				want = api.ErrArg
			}
			got, e := Changes(table, old, new)
			if e != want || want != 0 && got != nil {
				t.Errorf("Changes(%.20q, %.20q) = %v, %v; want %v", old, new, got, e, want)
			}
		}
	}
}

func TestEntriesInCommon(t *testing.T) { // P14.5
	table := api.Table{
		Id: 3, Name: "t", Keys: 2,
		Cols:    []api.Col{{Name: "a", Kind: api.Int}, {Name: "b", Kind: api.Text}, {Name: "c", Kind: api.Text, Null: true}, {Name: "d", Kind: api.Bytes, Null: true}},
		Indexes: []api.Index{{Name: "u", Cols: []int{2}, Unique: true}, {Name: "v", Cols: []int{3, 2}, Unique: true}, {Name: "p", Cols: []int{2}}, {Name: "q", Cols: []int{1, 3}}},
	}
	var list [][]any
	for _, a := range []any{int64(0), int64(1)} {
		for _, b := range []any{"", "x", "X"} {
			for _, c := range []any{nil, "", "x", "X", "\x00"} {
				for _, d := range []any{nil, []byte{}, []byte{0}, []byte("x")} {
					list = append(list, []any{a, b, c, d})
				}
			}
		}
	}
	other := table
	other.Id = 4
	for _, x := range list {
		mine, _ := Entries(table, x...)
		theirs, _ := Entries(other, x...)
		for _, y := range list {
			its, _ := Entries(table, y...)
			for i := range mine {
				for j := range its {
					equal := bytes.Equal(mine[i].Key, its[j].Key)
					want := i == j && alike(x[:2], y[:2])
					if i == j && i > 0 {
						var xs, ys []any
						for _, c := range table.Indexes[i-1].Cols {
							xs, ys = append(xs, x[c]), append(ys, y[c])
						}
						want = alike(xs, ys) && (want || table.Indexes[i-1].Unique)
					}
					if equal != want {
						t.Fatalf("the entries %d of %q and %d of %q: in common: %v", i, x, j, y, equal)
					}
					if bytes.Equal(theirs[i].Key, its[j].Key) {
						t.Fatalf("two tables have an entry's key in common")
					}
				}
			}
		}
	}
}

// strange are tables whose fields don't fit together.
func strange() []api.Table {
	out := []api.Table{{}, {Cols: cols(2)}, {Keys: 1}, {Keys: -1, Cols: cols(3)}, {Id: 1, Keys: 5, Cols: cols(3)}, {Indexes: indexes(9)}, {Id: 1, Name: "a", Keys: 1, Cols: cols(1), Indexes: []api.Index{{Name: "a", Cols: []int{9}}, {Name: "b", Cols: []int{-9}}, {}}}, {Name: strings.Repeat("\xff", 1<<16), Cols: make([]api.Col, 1<<16), Keys: 1 << 15, Indexes: make([]api.Index, 1<<16)}}
	for _, base := range []func() api.Table{example, wide} {
		for _, c := range changes() {
			if table, ok := changed(base(), c); ok {
				out = append(out, table)
			}
		}
	}
	return out
}

func TestAnyArguments(t *testing.T) { // P1
	lists := [][]any{nil, {}, {nil}, {int64(5)}, {int64(5), "a"}, {func() {}, map[string]int{}}, make([]any, 16), make([]any, 1000), values(), rowOf(wide())}
	for _, table := range append(strange(), example(), wide()) {
		Prefix(table)
		for _, row := range lists {
			e := Fits(table, row...)
			if k, e := Key(table, row...); e != 0 && k != nil {
				t.Errorf("Key = %v beside %v", k, e)
			}
			entries, e2 := Entries(table, row...)
			if e != e2 || e != 0 && entries != nil || e == 0 && len(entries) != len(table.Indexes)+1 {
				t.Errorf("Fits = %v, Entries = %v, %v", e, entries, e2)
			}
			for _, old := range lists {
				if w, e := Changes(table, old, row); e != 0 && w != nil {
					t.Errorf("Changes = %v beside %v", w, e)
				}
			}
		}
		for _, b := range [][]byte{nil, {0}, {114, 7}, {1, 0}, {255, 255, 255, 255, 255, 255, 255, 255, 255, 1}, make([]byte, 1<<12)} {
			if row, e := Row(table, api.Pair{Key: b, Value: b}); e == 0 || row != nil {
				t.Errorf("Row = %v, %v", row, e)
			}
		}
	}
}

// fill writes over a list, its spare room too.
func fill(b []byte) {
	b = b[:cap(b)]
	for i := range b {
		b[i] = 77
	}
}

// roomy is a copy with spare room.
func roomy(b []byte) []byte { return append(slices.Clone(b), 0, 1, 2, 255)[:len(b)] }

// roomyRow is a copy of a row with spare room, in its bytes and itself.
func roomyRow(row []any) []any {
	var out []any
	for _, v := range row {
		if b, ok := v.([]byte); ok {
			v = roomy(b)
		}
		out = append(out, v)
	}
	return append(out, "spare")[:len(out)]
}

// untouched looks whether a row that was handed in is as it was.
func untouched(t *testing.T, what string, row, want []any) {
	t.Helper()
	if !alike(row, want) || row[:len(row)+1][len(row)] != "spare" {
		t.Fatalf("%s has changed its row: %q", what, row)
	}
	for _, v := range row {
		if b, ok := v.([]byte); ok && !bytes.Equal(b[:len(b)+4][len(b):], []byte{0, 1, 2, 255}) {
			t.Fatalf("%s has changed bytes' spare room", what)
		}
	}
}

// spoilRow writes over all of a row.
func spoilRow(row []any) {
	for _, v := range row {
		if b, ok := v.([]byte); ok {
			fill(b)
		}
	}
	clear(row[:cap(row)])
}

func TestMemoryOfArguments(t *testing.T) { // P14.6
	want := wide()
	row := []any{"a", []byte("bytes"), true, nil, "e", []byte("more"), nil, int64(7)}
	second := []any{"a", []byte("bytes"), true, int64(1), nil, []byte("others"), nil, int64(8)}
	entries, pairs := plainEntries(want, row), plainEntries(want, row)
	table := wide()
	table.Cols = append(table.Cols, api.Col{Name: "spare"})[:len(want.Cols)]
	table.Indexes = append(table.Indexes, api.Index{Name: "spare"})[:len(want.Indexes)]
	for i, x := range table.Indexes {
		table.Indexes[i].Cols = append(x.Cols, 99)[:len(x.Cols)]
	}
	handed, other := roomyRow(row), roomyRow(second)
	Check(table)
	Fits(table, handed...)
	prefix, index := Prefix(table), IndexPrefix(table, 2)
	key, _ := Key(table, handed...)
	short, _ := Key(table, handed[:3]...)
	got, _ := Entries(table, handed...)
	writes, _ := Changes(table, handed, other)
	p := api.Pair{Key: roomy(entries[0].Key), Value: roomy(entries[0].Value)}
	back, _ := Row(table, p)
	untouched(t, "a call", handed, row)
	untouched(t, "Changes", other, second)
	if !bytes.Equal(p.Key[:len(p.Key)+4], append(slices.Clone(entries[0].Key), 0, 1, 2, 255)) || !bytes.Equal(p.Value[:len(p.Value)+4], append(slices.Clone(entries[0].Value), 0, 1, 2, 255)) {
		t.Errorf("Row has changed its pair")
	}
	same14 := slices.Equal(table.Cols, want.Cols) && table.Cols[:9][8].Name == "spare" && table.Indexes[:5][4].Name == "spare"
	for i, x := range table.Indexes {
		same14 = same14 && x.Name == want.Indexes[i].Name && slices.Equal(x.Cols, want.Indexes[i].Cols) && x.Cols[:len(x.Cols)+1][len(x.Cols)] == 99
	}
	if !same14 {
		t.Errorf("a call has changed its table: %v", table)
	}
	spoilRow(handed)
	spoilRow(other)
	fill(p.Key)
	fill(p.Value)
	for _, x := range table.Indexes {
		clear(x.Cols[:cap(x.Cols)])
	}
	clear(table.Cols[:cap(table.Cols)])
	clear(table.Indexes[:cap(table.Indexes)])
	if !bytes.Equal(prefix, []byte{114, 255}) || !bytes.Equal(index, []byte{105, 255, 2}) || !bytes.Equal(key, entries[0].Key) || !bytes.Equal(short, key) || !same(got, pairs) || !alike(back, row) {
		t.Errorf("an answer shares memory with an argument")
	}
	turns(t, want, row, second, writes)
}

func TestMemoryOfAnswers(t *testing.T) { // P14.6
	table := wide()
	row := []any{"a", []byte("bytes"), true, nil, "e", []byte("more"), nil, int64(7)}
	second := []any{"a", []byte("bytes"), true, int64(1), nil, []byte("others"), nil, int64(8)}
	want := plainEntries(table, row)
	apart := func(what string, got, again []api.Pair) {
		t.Helper()
		for i := range got {
			fill(got[i].Key)
			if !bytes.Equal(got[i].Value, again[i].Value) {
				t.Errorf("%s: the key %d shares memory with its value", what, i)
			}
			fill(got[i].Value)
			if !same(got[i+1:], again[i+1:]) {
				t.Errorf("%s: the pair %d shares memory with another", what, i)
			}
		}
		clear(got[:cap(got)])
	}
	one, _ := Entries(table, row...)
	two, _ := Entries(table, row...)
	apart("Entries", one, two)
	if !same(two, want) {
		t.Errorf("two Entries share memory")
	}
	pairs := func(writes []api.Write) []api.Pair {
		var out []api.Pair
		for _, w := range writes {
			out = append(out, api.Pair{Key: w.Key, Value: w.Value})
		}
		return out
	}
	for _, c := range [][2][]any{{nil, row}, {row, nil}, {row, second}} {
		first, _ := Changes(table, c[0], c[1])
		again, _ := Changes(table, c[0], c[1])
		apart("Changes", pairs(first), pairs(again))
		turns(t, table, c[0], c[1], again)
	}
	for _, call := range []func() []byte{
		func() []byte { return Prefix(table) }, func() []byte { return IndexPrefix(table, 1) }, func() []byte { k, _ := Key(table, row...); return k },
	} {
		a, b := call(), call()
		c := slices.Clone(b)
		if fill(a); !bytes.Equal(b, c) {
			t.Errorf("two answers share memory")
		}
	}
	a, _ := Row(table, want[0])
	b, _ := Row(table, want[0])
	fill(a[1].([]byte))
	if !alike(a[2:], row[2:]) {
		t.Errorf("two values of a row share memory")
	}
	spoilRow(a)
	if !alike(b, row) || !same(want, plainEntries(table, row)) {
		t.Errorf("two rows share memory")
	}
}

// FuzzAll: a table, a row and a pair, made of any bytes.
func FuzzAll(f *testing.F) { // P1, P14.1 to P14.5
	f.Add([]byte{7, 1, 2, 2, 13, 2, 1, 1, 3, 0}, []byte{2, 5, 3, 1, 97}, []byte{3, 1, 98}, []byte{9, 2, 128, 0, 0, 0, 0, 0, 0, 5, 1, 0})
	f.Fuzz(func(t *testing.T, shape, first, second, value []byte) {
		table := anyTable(shape)
		answers(t, "Check", Check(table), plainCheck(table))
		row, other := anyRow(table, first), anyRow(table, second)
		want := plainCheck(table)
		if want == 0 {
			want = plainFits(table.Cols, row)
		}
		answers(t, "Fits", Fits(table, row...), want)
		entries, e := Entries(table, row...)
		if answers(t, "Entries", e, want); want == 0 && !same(entries, plainEntries(table, row)) {
			t.Fatalf("Entries(%q) = %v", row, entries)
		}
		writes, e := Changes(table, row, other)
		if e == 0 {
			turns(t, table, row, other, writes)
		}
		if want == 0 {
			if back, e := Row(table, entries[0]); e != 0 || !alike(back, row) {
				t.Fatalf("Row(Entries(%q)) = %q, %v", row, back, e)
			}
			spoilt := api.Pair{Key: entries[0].Key, Value: value}
			if back, e := Row(table, spoilt); e == 0 && !same(plainEntries(table, back)[:1], []api.Pair{spoilt}) || e != 0 && (e != api.ErrForm || back != nil) {
				t.Fatalf("Row(%v) = %q, %v", spoilt, back, e)
			}
		}
	})
}

// anyTable is a table of which some bytes tell; often it is in form.
func anyTable(b []byte) api.Table {
	next := func() int {
		if len(b) == 0 {
			return 0
		}
		n := int(b[0])
		b = b[1:]
		return n
	}
	table := api.Table{Id: next(), Name: "t", Keys: next() % 5}
	for i := range next() % 18 {
		n := next()
		table.Cols = append(table.Cols, api.Col{Name: fmt.Sprintf("c%d", i-n/128), Kind: n % 6, Null: n/8%2 == 1})
	}
	for i := range next() % 6 {
		x := api.Index{Name: fmt.Sprintf("x%d", i), Unique: next()%2 == 1}
		for range next() % 4 {
			x.Cols = append(x.Cols, next()%20-1)
		}
		table.Indexes = append(table.Indexes, x)
	}
	return table
}

// anyRow is a row for a table, of which some bytes tell; often it fits.
func anyRow(table api.Table, b []byte) []any {
	var out []any
	all := values()
	for i := range table.Cols {
		n := 0
		if i < len(b) {
			n = int(b[i])
		}
		v := all[n%len(all)]
		if c := table.Cols[i]; n >= 128 && c.Kind > 0 && c.Kind < 5 {
			v = good(c)
		}
		out = append(out, v)
	}
	return out
}
