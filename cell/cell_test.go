package cell

import (
	"bytes"
	"cmp"
	"errors"
	"fmt"
	"math"
	"slices"
	"strings"
	"testing"
	"unsafe"

	"caisson/api"
	"caisson/codec"
	"caisson/text"
)

type (
	namedBool  bool
	namedInt   int64
	namedText  string
	namedBytes []byte
	holder     struct{ data []int }
)

// strangers are no values.
func strangers() []any {
	n, s := int64(7), "a"
	return []any{
		7, int8(7), int16(7), int32(7), uint(7), uint8(7), uint16(7), uint32(7), uint64(7), uintptr(7), 1.5, math.NaN(), float32(1), 1i, complex64(1),
		namedBool(true), namedInt(7), namedText("a"), namedBytes("a"), api.OK, [1]byte{1}, [0]byte{}, []int64{7}, []string{"a"}, []any{nil}, []rune("a"), [][]byte{{1}}, []int8{1},
		&n, &s, (*int64)(nil), (*string)(nil), holder{[]int{1}}, &holder{}, struct{}{}, api.Cell{}, api.Cell{Kind: api.Int, Int: 7},
		map[string]int{"a": 1}, map[string]int(nil), func() {}, (func())(nil), make(chan int), (chan int)(nil), errors.New("a"), unsafe.Pointer(nil), holder{[]int{1}}.data,
	}
}

// rising are values, no two alike, in their order.
func rising() []any {
	out := []any{nil, false, true}
	for _, n := range []int64{math.MinInt64, math.MinInt64 + 1, -1 << 32, -256, -255, -1, 0, 1, 2, 127, 128, 255, 256, 1 << 31, 1 << 32, math.MaxInt64 - 1, math.MaxInt64} {
		out = append(out, n)
	}
	texts := []string{
		"", "\x00", "\x00\x00", "\x00\x01", "\x00\xff", "\x01", "1", "10", "9", "A", "a", "A\x00", "a\x00", "A\x01", "AA", "Aa", "aA", "aa", "aAb", "AB", "Ab", "aB", "ab", "B", "b", "\x7f", "\u0080",
		"\u00c4", "\u00e4", "\u00c4a", "\u00e4a", "\u00d7", "\u00df", "\u00f7", "\u0391", "\u03b1", "\u0410", "\u0430", "\u20ac", "\ufffd", "\xff", "\xff\xff", "\xff\ufffd", "\ufffd\xff", "\ufffd\ufffd", "\ufffda", "\xffA", "\U0001f600", "\x80", "\xfe",
	}
	slices.SortFunc(texts, func(a, b string) int {
		return cmp.Or(strings.Compare(text.Fold(a), text.Fold(b)), strings.Compare(a, b))
	})
	for _, s := range texts {
		out = append(out, s)
	}
	for _, b := range [][]byte{{}, {0}, {0, 0}, {0, 0, 1}, {0, 1}, {0, 255}, {0, 255, 0}, {1}, {1, 0}, {1, 1}, []byte("A"), []byte("B"), []byte("a"), {127}, {128}, {255}, {255, 0}, {255, 255}} {
		out = append(out, b)
	}
	return out
}

// alike: are two values the same? (A list of bytes may be nil.)
func alike(a, b any) bool {
	x, xOk := a.([]byte)
	y, yOk := b.([]byte)
	if xOk && yOk {
		return bytes.Equal(x, y)
	}
	return !xOk && !yOk && a == b
}

func allAlike(a, b []any) bool { return slices.EqualFunc(a, b, alike) }

func TestOf(t *testing.T) { // P6.1
	for _, c := range []struct {
		cell api.Cell
		want any
	}{
		{api.Cell{}, nil}, {api.Cell{Data: []byte{}}, nil},
		{api.Cell{Kind: api.Bool}, false}, {api.Cell{Kind: api.Bool, Bool: true}, true}, {api.Cell{Kind: api.Bool, Bool: true, Data: []byte{}}, true},
		{api.Cell{Kind: api.Int}, int64(0)}, {api.Cell{Kind: api.Int, Int: 7}, int64(7)}, {api.Cell{Kind: api.Int, Int: math.MinInt64}, int64(math.MinInt64)},
		{api.Cell{Kind: api.Text}, ""}, {api.Cell{Kind: api.Text, Text: "a\x00\xff"}, "a\x00\xff"},
		{api.Cell{Kind: api.Bytes}, []byte{}}, {api.Cell{Kind: api.Bytes, Data: []byte{}}, []byte{}}, {api.Cell{Kind: api.Bytes, Data: []byte{0, 255}}, []byte{0, 255}},
	} {
		got, e := Of(c.cell)
		if e != api.OK || !alike(got, c.want) {
			t.Errorf("Of(%v) = %v, %v", c.cell, got, e)
		}
		if b, ok := got.([]byte); ok && b == nil {
			t.Errorf("Of(%v) is nil", c.cell)
		}
	}
}

func TestNotInForm(t *testing.T) { // P6.1
	bad := []api.Cell{{Kind: 5}, {Kind: -1}, {Kind: math.MinInt}, {Kind: math.MaxInt}, {Kind: 256}, {Kind: 1 << 32}, {Kind: 5, Data: []byte{1}}, {Kind: 6, Int: 1}}
	for kind := range 5 {
		for field, c := range map[int]api.Cell{api.Bool: {Bool: true}, api.Int: {Int: -1}, api.Text: {Text: "\x00"}, api.Bytes: {Data: []byte{0}}} {
			if field != kind {
				c.Kind = kind
				bad = append(bad, c)
			}
		}
	}
	bad = append(bad, api.Cell{Kind: api.Int, Int: 7, Text: "a"}, api.Cell{Kind: api.Bytes, Int: 1, Data: []byte{1}}, api.Cell{Kind: api.Bool, Bool: true, Int: math.MinInt64})
	for _, c := range bad {
		if v, e := Of(c); v != nil || e != api.ErrForm {
			t.Errorf("Of(%v) = %v, %v", c, v, e)
		}
	}
}

func TestCell(t *testing.T) { // P6.1
	for _, c := range []struct {
		v    any
		want api.Cell
	}{
		{nil, api.Cell{}}, {false, api.Cell{Kind: api.Bool}}, {true, api.Cell{Kind: api.Bool, Bool: true}}, {int64(-3), api.Cell{Kind: api.Int, Int: -3}}, {"", api.Cell{Kind: api.Text}},
		{"a\xff", api.Cell{Kind: api.Text, Text: "a\xff"}}, {[]byte{}, api.Cell{Kind: api.Bytes}}, {[]byte(nil), api.Cell{Kind: api.Bytes}}, {[]byte{0, 7}, api.Cell{Kind: api.Bytes, Data: []byte{0, 7}}},
	} {
		got, e := Cell(c.v)
		if e != api.OK || got.Kind != c.want.Kind || got.Bool != c.want.Bool || got.Int != c.want.Int || got.Text != c.want.Text || !bytes.Equal(got.Data, c.want.Data) {
			t.Errorf("Cell(%v) = %v, %v", c.v, got, e)
		}
	}
	for _, v := range rising() {
		c, _ := Cell(v)
		if back, e := Of(c); e != api.OK || !alike(back, v) {
			t.Errorf("Of(Cell(%v)) = %v, %v", v, back, e)
		}
	}
	for _, v := range strangers() {
		if c, e := Cell(v); e != api.ErrType || c.Kind != 0 || c.Bool || c.Int != 0 || c.Text != "" || len(c.Data) != 0 {
			t.Errorf("Cell(%T) = %v, %v", v, c, e)
		}
	}
}

// plainKind is a value's kind, by its type.
func plainKind(v any) int {
	switch v.(type) {
	case nil:
		return 0
	case bool:
		return 1
	case int64:
		return 2
	case string:
		return 3
	case []byte:
		return 4
	}
	return -1
}

func TestKind(t *testing.T) { // P6.1
	for _, v := range append(rising(), []byte(nil)) {
		if kind, e := Kind(v); kind != plainKind(v) || e != api.OK {
			t.Errorf("Kind(%v) = %d, %v", v, kind, e)
		}
	}
	for _, v := range strangers() {
		if kind, e := Kind(v); kind != 0 || e != api.ErrType {
			t.Errorf("Kind(%T) = %d, %v", v, kind, e)
		}
	}
}

func TestAssertions(t *testing.T) { // P6.1
	for _, v := range append(append(rising(), []byte(nil)), strangers()...) {
		b, isBool := v.(bool)
		if got, ok := BoolOf(v); got != b || ok != isBool {
			t.Errorf("BoolOf(%v) = %v, %v", v, got, ok)
		}
		n, isInt := v.(int64)
		if got, ok := IntOf(v); got != n || ok != isInt {
			t.Errorf("IntOf(%v) = %d, %v", v, got, ok)
		}
		s, isText := v.(string)
		if got, ok := TextOf(v); got != s || ok != isText {
			t.Errorf("TextOf(%v) = %q, %v", v, got, ok)
		}
		list, isBytes := v.([]byte)
		if got, ok := BytesOf(v); !bytes.Equal(got, list) || ok != isBytes {
			t.Errorf("BytesOf(%v) = %v, %v", v, got, ok)
		}
	}
}

// panics: does it?
func panics(f func()) (yes bool) {
	defer func() { yes = recover() != nil }()
	f()
	return false
}

func TestMust(t *testing.T) { // P6.1
	for _, v := range append(append(rising(), []byte(nil)), strangers()...) {
		n, isInt := v.(int64)
		var gotInt int64
		if panics(func() { gotInt = MustInt(v) }) == isInt || gotInt != n {
			t.Errorf("MustInt(%v) = %d", v, gotInt)
		}
		s, isText := v.(string)
		var gotText string
		if panics(func() { gotText = MustText(v) }) == isText || gotText != s {
			t.Errorf("MustText(%v) = %q", v, gotText)
		}
	}
}

func TestTotal(t *testing.T) { // P6.2
	ints := func(list ...int64) []any {
		var out []any
		for _, n := range list {
			out = append(out, n)
		}
		return out
	}
	for _, c := range []struct {
		list []any
		want int64
	}{
		{nil, 0}, {ints(), 0}, {ints(3, 4), 7}, {ints(-5), -5}, {ints(1, -1, 0), 0}, {ints(math.MaxInt64, 1), math.MinInt64}, {ints(math.MinInt64, math.MinInt64), 0}, {ints(math.MinInt64, -1), math.MaxInt64},
		{ints(math.MaxInt64, math.MaxInt64, 2), 0}, {slices.Repeat(ints(3), 1000), 3000},
	} {
		if got, e := Total(c.list...); got != c.want || e != api.OK {
			t.Errorf("Total(%v) = %d, %v", c.list, got, e)
		}
	}
	for _, v := range append(strangers(), nil, true, "3", "", []byte{3}) {
		for place := range 3 {
			list := slices.Insert(ints(3, 4), place, v)
			if got, e := Total(list...); got != 0 || e != api.ErrType {
				t.Errorf("Total(%v) = %d, %v", list, got, e)
			}
		}
	}
}

func TestCompare(t *testing.T) { // P6.3
	all := rising()
	for i, a := range all {
		for j, b := range all {
			if got, e := Compare(a, b); got != cmp.Compare(i, j) || e != api.OK {
				t.Errorf("Compare(%T %v, %T %v) = %d, %v", a, a, b, b, got, e)
			}
		}
	}
	for _, c := range []struct {
		a, b any
		want int
	}{
		{nil, nil, 0}, {nil, false, -1}, {"B", "a", 1}, {"A", "a", -1}, {"a", "A", 1}, {"A", "A", 0}, {"ab", "AC", -1}, {true, int64(math.MinInt64), -1}, {int64(math.MaxInt64), "", -1}, {"\U0010ffff", []byte{}, -1},
		{int64(-1), int64(1), -1}, {[]byte(nil), []byte{}, 0}, {[]byte("a"), []byte("B"), 1}, {[]byte{1}, "a", 1}, {"\u00c4", "\u00e4", -1}, {"\u00e4z", "\u00c4a", 1}, {"\xff", "\ufffd", 1}, {"a\x00", "a", 1},
	} {
		if got, e := Compare(c.a, c.b); got != c.want || e != api.OK {
			t.Errorf("Compare(%v, %v) = %d, %v", c.a, c.b, got, e)
		}
	}
	for _, v := range strangers() {
		for _, other := range []any{nil, true, int64(7), "a", []byte{1}, v} {
			if got, e := Compare(v, other); got != 0 || e != api.ErrType {
				t.Errorf("Compare(%T, %v) = %d, %v", v, other, got, e)
			}
			if got, e := Compare(other, v); got != 0 || e != api.ErrType {
				t.Errorf("Compare(%v, %T) = %d, %v", other, v, got, e)
			}
		}
	}
}

// written are values, with their keys and their parts of a frame.
func written() []struct {
	v         any
	key, part []byte
} {
	return []struct {
		v         any
		key, part []byte
	}{
		{nil, []byte{0}, []byte{0}},
		{false, []byte{1, 0}, []byte{1, 0}},
		{true, []byte{1, 1}, []byte{1, 1}},
		{int64(5), []byte{2, 128, 0, 0, 0, 0, 0, 0, 5}, []byte{2, 128, 0, 0, 0, 0, 0, 0, 5}},
		{int64(-1), []byte{2, 127, 255, 255, 255, 255, 255, 255, 255}, []byte{2, 127, 255, 255, 255, 255, 255, 255, 255}},
		{"", []byte{3, 0, 1, 0, 1}, []byte{3}},
		{"A\x00", []byte{3, 'a', 0, 255, 0, 1, 'A', 0, 255, 0, 1}, []byte{3, 'A', 0}},
		{"\xff", []byte{3, 0xef, 0xbf, 0xbd, 0, 1, 0xff, 0, 1}, []byte{3, 0xff}},
		{[]byte{}, []byte{4, 0, 1}, []byte{4}},
		{[]byte(nil), []byte{4, 0, 1}, []byte{4}},
		{[]byte{0, 7, 'A'}, []byte{4, 0, 255, 7, 'A', 0, 1}, []byte{4, 0, 7, 'A'}},
	}
}

func TestKey(t *testing.T) { // P6.4
	for _, c := range written() {
		for _, d := range written() {
			for _, list := range [][]any{{c.v}, {c.v, d.v}, {c.v, d.v, c.v}} {
				want := slices.Concat(c.key, d.key, c.key)
				if len(list) < 3 {
					want = slices.Concat(c.key, d.key)[:len(c.key)+(len(list)-1)*len(d.key)]
				}
				got, e := Key(list...)
				if !slices.Equal(got, want) || e != api.OK {
					t.Errorf("Key(%v) = %v, %v", list, got, e)
				}
				if back, e := FromKey(got); !allAlike(back, list) || e != api.OK {
					t.Errorf("FromKey(Key(%v)) = %v, %v", list, back, e)
				}
			}
		}
	}
	if got, e := Key(); len(got) != 0 || e != api.OK {
		t.Errorf("Key() = %v, %v", got, e)
	}
	for _, v := range strangers() {
		for _, list := range [][]any{{v}, {v, int64(1)}, {"a", v}, {nil, v, nil}} {
			if got, e := Key(list...); len(got) != 0 || e != api.ErrType {
				t.Errorf("Key(%v) = %v, %v", list, got, e)
			}
		}
	}
}

func TestOrderOfKeys(t *testing.T) { // P6.4
	all := rising()
	var keys [][]byte
	for _, v := range all { // each value alone, then with any behind it, in the lists' order
		key, _ := Key(v)
		keys = append(keys, key)
		for _, w := range all {
			key, _ := Key(v, w)
			keys = append(keys, key)
		}
	}
	for i := range keys[1:] {
		if codec.Cmp(keys[i], keys[i+1]) != -1 {
			t.Fatalf("the %d-th key, %v, isn't below the next one, %v", i, keys[i], keys[i+1])
		}
	}
	for _, v := range all {
		list := []any{v, "a", v}
		key, _ := Key(list...)
		if back, e := FromKey(key); !allAlike(back, list) || e != api.OK {
			t.Errorf("FromKey(Key(%v)) = %v, %v", list, back, e)
		}
	}
}

func TestFromKeyErrors(t *testing.T) { // P6.4
	for _, c := range []struct {
		b []byte
		e api.Errno
	}{
		{[]byte{1, 2}, api.ErrForm}, {[]byte{2}, api.ErrEnd}, {[]byte{1}, api.ErrEnd}, {[]byte{1, 255}, api.ErrForm}, {[]byte{5}, api.ErrForm}, {[]byte{255}, api.ErrForm}, {[]byte{0, 5}, api.ErrForm}, {[]byte{0, 0, 0, 1}, api.ErrEnd},
		{[]byte{2, 1, 2, 3, 4, 5, 6, 7}, api.ErrEnd}, {[]byte{2, 1, 2, 3, 4, 5, 6, 7, 8, 9}, api.ErrForm}, {[]byte{2, 1, 2, 3, 4, 5, 6, 7, 8, 2}, api.ErrEnd},
		{[]byte{3}, api.ErrEnd}, {[]byte{3, 'a'}, api.ErrEnd}, {[]byte{3, 'a', 0}, api.ErrEnd}, {[]byte{3, 'a', 0, 1}, api.ErrEnd}, {[]byte{3, 'a', 0, 1, 'a', 0}, api.ErrEnd}, {[]byte{3, 'a', 0, 2}, api.ErrForm},
		{[]byte{3, 'a', 0, 1, 'b', 0, 1}, api.ErrForm}, {[]byte{3, 'A', 0, 1, 'A', 0, 1}, api.ErrForm}, {[]byte{3, 'a', 0, 1, 'a', 0, 0}, api.ErrForm}, {[]byte{3, 0xff, 0, 1, 0xff, 0, 1}, api.ErrForm},
		{[]byte{4}, api.ErrEnd}, {[]byte{4, 7}, api.ErrEnd}, {[]byte{4, 0}, api.ErrEnd}, {[]byte{4, 0, 3}, api.ErrForm}, {[]byte{4, 0, 255}, api.ErrEnd},
		{[]byte{1, 2, 2}, api.ErrForm}, {[]byte{2, 1, 5}, api.ErrEnd}, {[]byte{5, 2}, api.ErrForm}, // the first thing that is wrong
	} {
		for _, ahead := range [][]byte{nil, {0}, {1, 1}, {4, 0, 1}} {
			b := slices.Concat(ahead, c.b)
			if list, e := FromKey(b); len(list) != 0 || e != c.e {
				t.Errorf("FromKey(%v) = %v, %v; want the error %v", b, list, e, c.e)
			}
		}
	}
	for _, b := range [][]byte{nil, {}} {
		if list, e := FromKey(b); len(list) != 0 || e != api.OK {
			t.Errorf("FromKey(none) = %v, %v", list, e)
		}
	}
	for kind := 5; kind < 256; kind++ {
		if list, e := FromKey([]byte{byte(kind), 0, 1, 0, 1}); len(list) != 0 || e != api.ErrForm {
			t.Errorf("FromKey of the kind %d = %v, %v", kind, list, e)
		}
	}
}

func TestCutKeys(t *testing.T) { // P6.4
	list := []any{nil, true, int64(-7), "Ab\x00", []byte{0, 1}, "", []byte{}}
	key, _ := Key(list...)
	ends := map[int]int{}
	for n := range len(list) + 1 {
		begin, _ := Key(list[:n]...)
		ends[len(begin)] = n
	}
	for size := range len(key) {
		got, e := FromKey(key[:size])
		n, whole := ends[size]
		if whole && (!allAlike(got, list[:n]) || e != api.OK) || !whole && (len(got) != 0 || e != api.ErrEnd) {
			t.Errorf("FromKey of the first %d bytes = %v, %v", size, got, e)
		}
	}
}

func TestEncode(t *testing.T) { // P6.5
	for _, c := range written() {
		for _, d := range written() {
			for _, list := range [][]any{{c.v}, {c.v, d.v}, {d.v, c.v, d.v}} {
				parts := [][]byte{c.part, d.part}[:min(len(list), 2)]
				if len(list) == 3 {
					parts = [][]byte{d.part, c.part, d.part}
				}
				got, e := Encode(list...)
				if !slices.Equal(got, codec.Frame(parts...)) || e != api.OK {
					t.Errorf("Encode(%v) = %v, %v", list, got, e)
				}
				if back, e := Decode(got); !allAlike(back, list) || e != api.OK {
					t.Errorf("Decode(Encode(%v)) = %v, %v", list, back, e)
				}
			}
		}
	}
	if got, e := Encode(); len(got) != 0 || e != api.OK {
		t.Errorf("Encode() = %v, %v", got, e)
	}
	all := rising()
	b, e := Encode(all...)
	if back, e2 := Decode(b); e != api.OK || e2 != api.OK || !allAlike(back, all) {
		t.Errorf("Decode(Encode(%v)) = %v, %v, %v", all, back, e, e2)
	}
	long := []any{strings.Repeat("x", 300), bytes.Repeat([]byte{0}, 20000)}
	b, _ = Encode(long...)
	if back, e := Decode(b); !allAlike(back, long) || e != api.OK {
		t.Errorf("Decode of long values: %v", e)
	}
	for _, v := range strangers() {
		for _, list := range [][]any{{v}, {v, int64(1)}, {"a", v}, {nil, v, nil}} {
			if got, e := Encode(list...); len(got) != 0 || e != api.ErrType {
				t.Errorf("Encode(%v) = %v, %v", list, got, e)
			}
		}
	}
}

func TestDecodeErrors(t *testing.T) { // P6.5
	int9 := []byte{2, 128, 0, 0, 0, 0, 0, 0, 0}
	for _, part := range [][]byte{{}, {0, 0}, {1}, {1, 2}, {1, 255}, {1, 0, 0}, {1, 1, 1}, {2}, int9[:8], append(slices.Clone(int9), 0), {5}, {5, 1}, {255}, {9}, {128, 0}} {
		for _, parts := range [][][]byte{{part}, {{0}, part}, {part, {0}}, {{3, 'a'}, part, {4}}} {
			b := codec.Frame(parts...)
			if list, e := Decode(b); len(list) != 0 || e != api.ErrForm {
				t.Errorf("Decode(%v) = %v, %v", b, list, e)
			}
		}
	}
	for _, c := range []struct {
		b []byte
		e api.Errno
	}{
		{[]byte{1, 9}, api.ErrForm}, {[]byte{2, 3}, api.ErrEnd}, {[]byte{128}, api.ErrEnd}, {[]byte{128, 0}, api.ErrForm}, {[]byte{1}, api.ErrEnd}, {[]byte{0}, api.ErrForm},
		{[]byte{1, 9, 2, 3}, api.ErrEnd}, {[]byte{1, 9, 128}, api.ErrEnd}, // those of codec.Parts come first, wherever they are
	} {
		if list, e := Decode(c.b); len(list) != 0 || e != c.e {
			t.Errorf("Decode(%v) = %v, %v; want the error %v", c.b, list, e, c.e)
		}
	}
	if list, e := Decode([]byte{1, 0}); len(list) != 1 || list[0] != nil || e != api.OK {
		t.Errorf("Decode(1 0) = %v, %v", list, e)
	}
	for _, b := range [][]byte{nil, {}} {
		if list, e := Decode(b); len(list) != 0 || e != api.OK {
			t.Errorf("Decode(none) = %v, %v", list, e)
		}
	}
}

// roomy is a copy of b with spare room that holds other bytes.
func roomy(b ...byte) []byte { return append(slices.Clone(b), 0, 1, 2, 255)[:len(b)] }

// fill writes over a list, its spare room too.
func fill(b []byte) {
	b = b[:cap(b)]
	for i := range b {
		b[i] = 77
	}
}

func TestMemoryOfBytes(t *testing.T) { // P6.6
	b := roomy(5, 6)
	before := slices.Clone(b[:6])
	one, _ := Cell(b)
	two, _ := BytesOf(b)
	three, _ := Of(api.Cell{Kind: api.Bytes, Data: b})
	four, _ := Of(api.Cell{Kind: api.Bytes, Data: b})
	key, _ := Key(b, b)
	frame, _ := Encode(b, b)
	Compare(b, b)
	Kind(b)
	Total(b)
	if !slices.Equal(b[:6], before) {
		t.Errorf("an argument is changed: %v", b[:6])
	}
	fill(b)
	if !slices.Equal(key, []byte{4, 5, 6, 0, 1, 4, 5, 6, 0, 1}) || !slices.Equal(frame, []byte{3, 4, 5, 6, 3, 4, 5, 6}) {
		t.Errorf("Key, Encode: the answer lies in an argument: %v, %v", key, frame)
	}
	for _, got := range [][]byte{one.Data, two, three.([]byte), four.([]byte)} {
		if !slices.Equal(got, []byte{5, 6}) {
			t.Errorf("an answer lies in an argument, or in another answer: %v", got)
		}
		fill(got)
	}
}

func TestMemoryOfLists(t *testing.T) { // P6.6
	list := []any{[]byte{5}, "a", []byte{6}, []byte{}, []byte{7}}[:3]
	key, _ := Key(list...)
	frame, _ := Encode(list...)
	if left := list[:5]; !allAlike(left, []any{[]byte{5}, "a", []byte{6}, []byte{}, []byte{7}}) {
		t.Errorf("Key, Encode: the list is changed: %v", left)
	}
	for i, read := range []func([]byte) ([]any, api.Errno){FromKey, Decode} {
		b := roomy([][]byte{key, frame}[i]...)
		before := slices.Clone(b[:cap(b)])
		got, _ := read(b)
		again, _ := read(b)
		for j, v := range got {
			if !alike(v, list[j]) {
				t.Errorf("%v lies in another value's memory: %v", list[j], v)
			}
			if data, ok := v.([]byte); ok {
				fill(data)
			}
		}
		if !slices.Equal(b[:cap(b)], before) || !allAlike(again, list) {
			t.Errorf("what is read lies in the argument, or in another answer: %v, %v", b[:cap(b)], again)
		}
		fill(b)
		if !allAlike(again, list) {
			t.Errorf("what is read lies in the argument: %v", again)
		}
	}
}

func TestNeverNil(t *testing.T) { // P6.4, P6.5: bytes are told from Null
	for i, read := range []func([]byte) ([]any, api.Errno){FromKey, Decode} {
		list, e := read([][]byte{{4, 0, 1}, {1, 4}}[i])
		if data, ok := list[0].([]byte); !ok || data == nil || len(data) != 0 || e != api.OK {
			t.Errorf("no bytes are read as %#v, %v", list[0], e)
		}
	}
}

// shares: does one text lie in the other one's memory?
func shares(part, whole string) bool {
	p, w := uintptr(unsafe.Pointer(unsafe.StringData(part))), uintptr(unsafe.Pointer(unsafe.StringData(whole)))
	return len(part) > 0 && p < w+uintptr(len(whole)) && w < p+uintptr(len(part))
}

func TestMemoryOfTexts(t *testing.T) { // P6.6
	s := strings.Clone("a text of some length")
	one, _ := Cell(s)
	two, _ := TextOf(s)
	three, _ := Of(api.Cell{Kind: api.Text, Text: s})
	for _, got := range []string{one.Text, two, three.(string), MustText(s)} {
		if got != s || shares(got, s) {
			t.Errorf("the text %q lies in the argument", got)
		}
	}
}

// FuzzAll: every call ends without a panic; beside an error all is zero; what is read is just what would be written.
func FuzzAll(f *testing.F) { // P1, P6.1 to P6.5
	for _, c := range written() {
		f.Add(c.key, "aB\xff", int64(-1), 3)
		f.Add(codec.Frame(c.part, c.part), "", int64(math.MinInt64), 4)
		f.Add(c.part, "\x00", int64(7), math.MaxInt)
	}
	f.Fuzz(func(t *testing.T, b []byte, s string, n int64, kind int) {
		list, e := FromKey(b)
		if key, _ := Key(list...); e == api.OK && !bytes.Equal(key, b) || e != api.OK && (len(list) != 0 || e != api.ErrForm && e != api.ErrEnd) {
			t.Errorf("FromKey(%v) = %v, %v", b, list, e)
		}
		list, e = Decode(b)
		if frame, _ := Encode(list...); e == api.OK && !bytes.Equal(frame, b) || e != api.OK && (len(list) != 0 || e != api.ErrForm && e != api.ErrEnd) {
			t.Errorf("Decode(%v) = %v, %v", b, list, e)
		}
		values := []any{nil, n&1 == 1, n, s, b}
		key, e := Key(values...)
		if back, e2 := FromKey(key); e != api.OK || e2 != api.OK || !allAlike(back, values) {
			t.Errorf("FromKey(Key(%v)) = %v, %v, %v", values, back, e, e2)
		}
		frame, e := Encode(values...)
		if back, e2 := Decode(frame); e != api.OK || e2 != api.OK || !allAlike(back, values) {
			t.Errorf("Decode(Encode(%v)) = %v, %v, %v", values, back, e, e2)
		}
		if _, e := Of(api.Cell{Kind: kind, Bool: true, Int: n, Text: s, Data: b}); e != api.ErrForm && kind != api.Bool {
			t.Errorf("Of a cell of the kind %d with a bool: %v", kind, e)
		}
		Total(values...)
		for i, v := range values {
			for j, w := range values {
				if got, e := Compare(v, w); got != cmp.Compare(i, j) || e != api.OK {
					t.Errorf("Compare(%v, %v) = %d, %v", v, w, got, e)
				}
			}
		}
		if got, _ := Compare(s, string(b)); got != cmp.Or(strings.Compare(text.Fold(s), text.Fold(string(b))), strings.Compare(s, string(b))) {
			t.Errorf("Compare(%q, %q) = %d", s, b, got)
		}
	})
}

func TestAnyArguments(t *testing.T) { // P1
	for _, v := range strangers() {
		for _, f := range []func(){
			func() { Cell(v) }, func() { Kind(v) }, func() { IntOf(v) }, func() { TextOf(v) }, func() { BoolOf(v) }, func() { BytesOf(v) }, func() { Total(v) }, func() { Compare(v, v) }, func() { Key(v) }, func() { Encode(v) },
		} {
			if panics(f) {
				t.Errorf("%s: a call panics", fmt.Sprintf("%T", v))
			}
		}
	}
}
