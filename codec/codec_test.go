package codec

import (
	"bytes"
	"math"
	"math/big"
	"slices"
	"strings"
	"testing"

	"caisson/api"
)

// lists makes all lists of at most so many of these bytes, the empty one too.
func lists(most int, of ...byte) [][]byte {
	all := [][]byte{{}}
	begin := 0
	for range most {
		end := len(all)
		for _, b := range all[begin:end] {
			for _, c := range of {
				all = append(all, append(slices.Clone(b), c))
			}
		}
		begin = end
	}
	return all
}

// wantU is GetU at the place 0, by the words of the document.
func wantU(b []byte) (uint64, int, api.Errno) {
	end := slices.IndexFunc(b, func(c byte) bool { return c < 128 })
	if end < 0 {
		if len(b) >= 10 { // at least eleven in all: more than it needs, or above 2^64 - 1
			return 0, 0, api.ErrForm
		}
		return 0, 0, api.ErrEnd
	}
	n := new(big.Int)
	for i := end; i >= 0; i-- {
		n.Lsh(n, 7).Or(n, big.NewInt(int64(b[i]&127)))
	}
	if !n.IsUint64() || end > 0 && b[end] == 0 {
		return 0, 0, api.ErrForm
	}
	return n.Uint64(), end + 1, api.OK
}

func TestPutU(t *testing.T) { // P1.1
	for _, c := range []struct {
		n    uint64
		want []byte
	}{
		{0, []byte{0}}, {1, []byte{1}}, {127, []byte{127}}, {128, []byte{128, 1}}, {300, []byte{172, 2}},
		{16383, []byte{255, 127}}, {16384, []byte{128, 128, 1}},
		{1<<63 - 1, []byte{255, 255, 255, 255, 255, 255, 255, 255, 127}},
		{1 << 63, []byte{128, 128, 128, 128, 128, 128, 128, 128, 128, 1}},
		{math.MaxUint64, []byte{255, 255, 255, 255, 255, 255, 255, 255, 255, 1}},
	} {
		if got := PutU(c.n); !slices.Equal(got, c.want) {
			t.Errorf("PutU(%d) = %v", c.n, got)
		}
	}
}

func TestGetUUndoesPutU(t *testing.T) { // P1.1
	for shift := range 64 {
		for _, n := range []uint64{1<<shift - 1, 1 << shift, 1<<shift + 1, math.MaxUint64 >> shift, 0x123456789abcdef0 >> shift} {
			b := slices.Concat([]byte{128, 7}, PutU(n), []byte{0, 128})
			got, next, e := GetU(b, 2)
			if got != n || next != len(b)-2 || e != api.OK {
				t.Errorf("GetU of PutU(%d) = %d, %d, %v", n, got, next, e)
			}
		}
	}
}

func TestGetUOfAnything(t *testing.T) { // P1.1
	tails := lists(3, 0, 1, 2, 127, 128, 129, 255)
	for _, head := range [][]byte{{}, bytes.Repeat([]byte{128}, 8), bytes.Repeat([]byte{255}, 8), bytes.Repeat([]byte{128}, 9), bytes.Repeat([]byte{255}, 9)} {
		for _, tail := range tails {
			b := slices.Concat(head, tail)
			n, next, e := GetU(b, 0)
			if wn, wnext, we := wantU(b); n != wn || next != wnext || e != we {
				t.Errorf("GetU(%v) = %d, %d, %v; want %d, %d, %v", b, n, next, e, wn, wnext, we)
			}
		}
	}
}

func TestGetUErrors(t *testing.T) { // P1.1
	ten := bytes.Repeat([]byte{128}, 10)
	for _, c := range []struct {
		b  []byte
		at int
		e  api.Errno
	}{
		{[]byte{128, 0}, 0, api.ErrForm}, {[]byte{128}, 0, api.ErrEnd}, {nil, 1, api.ErrArg}, {nil, 0, api.ErrEnd}, {nil, -1, api.ErrArg},
		{[]byte{5}, 1, api.ErrEnd}, {[]byte{5}, 2, api.ErrArg}, {[]byte{5}, math.MaxInt, api.ErrArg}, {[]byte{5}, math.MinInt, api.ErrArg},
		{ten[:9], 0, api.ErrEnd}, {ten, 0, api.ErrForm}, {ten, 1, api.ErrEnd},
		{[]byte{255, 255, 255, 255, 255, 255, 255, 255, 255, 2}, 0, api.ErrForm},
		{[]byte{128, 128, 128, 128, 128, 128, 128, 128, 128, 0}, 0, api.ErrForm},
	} {
		if n, next, e := GetU(c.b, c.at); n != 0 || next != 0 || e != c.e {
			t.Errorf("GetU(%v, %d) = %d, %d, %v; want the error %v", c.b, c.at, n, next, e, c.e)
		}
	}
}

func TestOrdBytes(t *testing.T) { // P1.2
	if b := OrdU(0x0102030405060708); !slices.Equal(b, []byte{1, 2, 3, 4, 5, 6, 7, 8}) {
		t.Errorf("OrdU = %v", b)
	}
	if b := OrdU(math.MaxUint64); !slices.Equal(b, bytes.Repeat([]byte{255}, 8)) {
		t.Errorf("OrdU of the greatest = %v", b)
	}
	for n, want := range map[int64][]byte{
		-1:            {127, 255, 255, 255, 255, 255, 255, 255},
		0:             {128, 0, 0, 0, 0, 0, 0, 0},
		1:             {128, 0, 0, 0, 0, 0, 0, 1},
		math.MinInt64: {0, 0, 0, 0, 0, 0, 0, 0},
		math.MaxInt64: {255, 255, 255, 255, 255, 255, 255, 255},
	} {
		if b := OrdI(n); !slices.Equal(b, want) {
			t.Errorf("OrdI(%d) = %v", n, b)
		}
	}
}

// numbers are the powers of two with their neighbours, and their negatives.
func numbers() []int64 {
	all := []int64{0, math.MinInt64, math.MaxInt64}
	for shift := range 63 {
		for _, n := range []int64{1<<shift - 1, 1 << shift, 1<<shift + 1} {
			all = append(all, n, -n)
		}
	}
	return all
}

func TestOrdOrder(t *testing.T) { // P1.2
	sign := func(less, more bool) int {
		switch {
		case less:
			return -1
		case more:
			return 1
		}
		return 0
	}
	for _, a := range numbers() {
		for _, b := range numbers() {
			if got := bytes.Compare(OrdI(a), OrdI(b)); got != sign(a < b, a > b) {
				t.Fatalf("OrdI(%d) to OrdI(%d): %d", a, b, got)
			}
			u, v := uint64(a), uint64(b)
			if got := bytes.Compare(OrdU(u), OrdU(v)); got != sign(u < v, u > v) {
				t.Fatalf("OrdU(%d) to OrdU(%d): %d", u, v, got)
			}
		}
	}
}

func TestGetOrdNumbers(t *testing.T) { // P1.2
	for _, n := range numbers() {
		b := slices.Concat([]byte{9}, OrdI(n), []byte{9})
		if got, next, e := GetOrdI(b, 1); got != n || next != 9 || e != api.OK {
			t.Errorf("GetOrdI of OrdI(%d) = %d, %d, %v", n, got, next, e)
		}
		b = slices.Concat([]byte{9}, OrdU(uint64(n)))
		if got, next, e := GetOrdU(b, 1); got != uint64(n) || next != 9 || e != api.OK {
			t.Errorf("GetOrdU of OrdU(%d) = %d, %d, %v", uint64(n), got, next, e)
		}
	}
}

func TestGetOrdNumbersErrors(t *testing.T) { // P1.2
	nine := bytes.Repeat([]byte{7}, 9)
	for _, c := range []struct {
		b  []byte
		at int
		e  api.Errno
	}{
		{nine, -1, api.ErrArg}, {nine, 10, api.ErrArg}, {nine, math.MinInt, api.ErrArg}, {nine, math.MaxInt, api.ErrArg},
		{nine, 9, api.ErrEnd}, {nine, 2, api.ErrEnd}, {nine[:7], 0, api.ErrEnd}, {nil, 0, api.ErrEnd}, {nil, 1, api.ErrArg},
		{nine[:7:9], 0, api.ErrEnd},
	} {
		if n, next, e := GetOrdU(c.b, c.at); n != 0 || next != 0 || e != c.e {
			t.Errorf("GetOrdU(%v, %d) = %d, %d, %v", c.b, c.at, n, next, e)
		}
		if n, next, e := GetOrdI(c.b, c.at); n != 0 || next != 0 || e != c.e {
			t.Errorf("GetOrdI(%v, %d) = %d, %d, %v", c.b, c.at, n, next, e)
		}
	}
}

func TestOrdTextBytes(t *testing.T) { // P1.3
	for _, c := range []struct{ b, want []byte }{
		{nil, []byte{0, 1}}, {[]byte{0, 7}, []byte{0, 255, 7, 0, 1}}, {[]byte{0}, []byte{0, 255, 0, 1}},
		{[]byte{0, 1}, []byte{0, 255, 1, 0, 1}}, {[]byte{255, 1}, []byte{255, 1, 0, 1}}, {[]byte{0, 0}, []byte{0, 255, 0, 255, 0, 1}},
	} {
		if got := OrdText(c.b); !slices.Equal(got, c.want) {
			t.Errorf("OrdText(%v) = %v", c.b, got)
		}
	}
}

func TestOrdTextOrder(t *testing.T) { // P1.3
	all := lists(3, 0, 1, 2, 254, 255)
	for _, a := range all {
		for _, b := range all {
			x, y := OrdText(a), OrdText(b)
			if bytes.Compare(x, y) != bytes.Compare(a, b) {
				t.Fatalf("OrdText of %v and %v: another order", a, b)
			}
			if !bytes.Equal(a, b) && bytes.HasPrefix(y, x) {
				t.Fatalf("OrdText(%v) is a beginning of that of %v", a, b)
			}
		}
	}
}

func TestOrdTextTuples(t *testing.T) { // P1.3
	all := lists(2, 0, 1, 255)
	tuple := func(a, b []byte) []byte { return slices.Concat(OrdText(a), OrdText(b)) }
	for _, a := range all {
		for _, b := range all {
			for _, c := range all {
				for _, d := range all {
					want := bytes.Compare(a, c)
					if want == 0 {
						want = bytes.Compare(b, d)
					}
					if bytes.Compare(tuple(a, b), tuple(c, d)) != want {
						t.Fatalf("(%v %v) to (%v %v): another order", a, b, c, d)
					}
				}
			}
		}
	}
}

func TestGetOrdText(t *testing.T) { // P1.3
	for _, want := range append(lists(3, 0, 1, 2, 254, 255), bytes.Repeat([]byte{0, 9}, 500)) {
		b := slices.Concat([]byte{0}, OrdText(want), []byte{0})
		if got, next, e := GetOrdText(b, 1); !bytes.Equal(got, want) || next != len(b)-1 || e != api.OK {
			t.Errorf("GetOrdText of OrdText(%v) = %v, %d, %v", want, got, next, e)
		}
	}
	for _, b := range lists(5, 0, 1, 2, 255) { // what is read is just what would be written
		got, next, e := GetOrdText(b, 0)
		if e == api.OK && !bytes.Equal(OrdText(got), b[:next]) {
			t.Errorf("GetOrdText(%v) = %v, %d", b, got, next)
		}
	}
}

func TestGetOrdTextErrors(t *testing.T) { // P1.3
	for _, c := range []struct {
		b  []byte
		at int
		e  api.Errno
	}{
		{[]byte{0, 3}, 0, api.ErrForm}, {[]byte{7}, 0, api.ErrEnd}, {nil, 0, api.ErrEnd}, {nil, 1, api.ErrArg}, {nil, -1, api.ErrArg},
		{[]byte{0}, 0, api.ErrEnd}, {[]byte{0, 0}, 0, api.ErrForm}, {[]byte{0, 0, 1}, 0, api.ErrForm}, {[]byte{0, 2, 0, 1}, 0, api.ErrForm},
		{[]byte{0, 254}, 0, api.ErrForm}, {[]byte{0, 255}, 0, api.ErrEnd}, {[]byte{0, 255, 0}, 0, api.ErrEnd}, {[]byte{5, 0, 255, 0, 9}, 0, api.ErrForm},
		{[]byte{0, 1}, 2, api.ErrEnd}, {[]byte{0, 1}, 3, api.ErrArg}, {[]byte{0, 1}, 1, api.ErrEnd},
		{[]byte{0, 1}, math.MinInt, api.ErrArg}, {[]byte{0, 1}, math.MaxInt, api.ErrArg},
		{[]byte{7, 0, 1}[:2], 0, api.ErrEnd}, // the spare room isn't read
	} {
		if b, next, e := GetOrdText(c.b, c.at); len(b) != 0 || next != 0 || e != c.e {
			t.Errorf("GetOrdText(%v, %d) = %v, %d, %v; want the error %v", c.b, c.at, b, next, e, c.e)
		}
	}
}

func TestCmp(t *testing.T) { // P1.4
	all := lists(3, 0, 1, 128, 255)
	for _, a := range all {
		for _, b := range all {
			if got := Cmp(a, b); got != strings.Compare(string(a), string(b)) {
				t.Fatalf("Cmp(%v, %v) = %d", a, b, got)
			}
		}
	}
	if Cmp(nil, []byte{}) != 0 || Cmp(nil, []byte{0}) != -1 || Cmp([]byte{2}, []byte{1, 9}) != 1 {
		t.Errorf("Cmp of nil, of a beginning")
	}
}

func TestFrame(t *testing.T) { // P1.4
	if b := Frame([]byte{1}, nil); !slices.Equal(b, []byte{1, 1, 0}) {
		t.Errorf("Frame = %v", b)
	}
	if b := Frame(); len(b) != 0 {
		t.Errorf("Frame() = %v", b)
	}
	long := bytes.Repeat([]byte{5}, 300)
	if b := Frame(long, []byte{6}); !slices.Equal(b, slices.Concat([]byte{172, 2}, long, []byte{1, 6})) {
		t.Errorf("Frame of 300 bytes begins with %v", b[:3])
	}
	some := [][]byte{nil, {}, {0}, {1, 2}, {128}, long}
	for _, x := range some {
		for _, y := range some {
			for _, z := range some {
				got, e := Parts(Frame(x, y, z))
				if e != api.OK || !slices.EqualFunc(got, [][]byte{x, y, z}, bytes.Equal) {
					t.Fatalf("Parts of the frame of %v, %v, %v = %v, %v", x, y, z, got, e)
				}
			}
		}
	}
}

func TestParts(t *testing.T) { // P1.4
	if p, e := Parts(nil); len(p) != 0 || e != api.OK {
		t.Errorf("Parts of nothing = %v, %v", p, e)
	}
	for _, b := range lists(4, 0, 1, 2, 3, 128) { // what is read is just what would be written
		if p, e := Parts(b); e == api.OK && !bytes.Equal(Frame(p...), b) {
			t.Errorf("Parts(%v) = %v", b, p)
		}
	}
	for _, c := range []struct {
		b []byte
		e api.Errno
	}{
		{[]byte{2, 1}, api.ErrEnd}, {[]byte{1}, api.ErrEnd}, {[]byte{128}, api.ErrEnd}, {[]byte{128, 0}, api.ErrForm},
		{[]byte{1, 7, 128, 0}, api.ErrForm}, {[]byte{1, 7, 128}, api.ErrEnd}, {[]byte{0, 5, 128, 0}, api.ErrEnd},
		{PutU(math.MaxUint64), api.ErrEnd}, {PutU(1 << 63), api.ErrEnd}, {append(PutU(math.MaxInt64), 1, 2), api.ErrEnd},
		{bytes.Repeat([]byte{255}, 10), api.ErrForm}, {bytes.Repeat([]byte{255}, 9), api.ErrEnd},
		{[]byte{2, 1, 1}[:2], api.ErrEnd}, // the spare room isn't read
	} {
		if p, e := Parts(c.b); len(p) != 0 || e != c.e {
			t.Errorf("Parts(%v) = %v, %v; want the error %v", c.b, p, e, c.e)
		}
	}
}

func TestNext(t *testing.T) { // P1.5
	for _, c := range []struct{ b, want []byte }{
		{[]byte{1, 255}, []byte{2}}, {[]byte{255}, nil}, {nil, nil}, {[]byte{255, 255}, nil}, {[]byte{1}, []byte{2}}, {[]byte{0}, []byte{1}},
		{[]byte{254, 255, 255}, []byte{255}}, {[]byte{255, 0}, []byte{255, 1}}, {[]byte{255, 0, 255}, []byte{255, 1}}, {[]byte{1, 0}, []byte{1, 1}},
	} {
		if got := Next(c.b); !slices.Equal(got, c.want) || c.want == nil && got != nil {
			t.Errorf("Next(%v) = %v", c.b, got)
		}
	}
	all := lists(3, 0, 1, 254, 255)
	for _, p := range lists(2, 0, 1, 254, 255) {
		n := Next(p)
		for _, x := range all { // below it is just what begins so, of what isn't below the prefix
			below := bytes.Compare(x, p) >= 0 && (len(n) == 0 || bytes.Compare(x, n) < 0)
			if below != bytes.HasPrefix(x, p) {
				t.Fatalf("Next(%v) = %v, and %v", p, n, x)
			}
		}
	}
}

// roomy is a copy of b with spare room that holds other bytes.
func roomy(b []byte) []byte {
	return append(slices.Clone(b), 0, 1, 2, 255)[:len(b)]
}

// fill writes over a list, its spare room too.
func fill(b []byte) {
	b = b[:cap(b)]
	for i := range b {
		b[i] = 77
	}
}

// ownMemory looks whether a call leaves its argument alone, and answers memory of its own.
func ownMemory(t *testing.T, name string, arg []byte, call func([]byte) [][]byte) {
	t.Helper()
	in := roomy(arg)
	before := slices.Clone(in[:cap(in)])
	first, again := call(in), call(in)
	if !bytes.Equal(in[:cap(in)], before) {
		t.Errorf("%s: the argument is changed", name)
	}
	if !slices.EqualFunc(first, again, bytes.Equal) {
		t.Errorf("%s: asked twice alike, it answers otherwise", name)
	}
	fill(in)
	copy(in, arg)
	if want := call(in); !slices.EqualFunc(first, want, bytes.Equal) {
		t.Errorf("%s: the spare room shows", name)
	}
	want := make([][]byte, len(first))
	for i := range first {
		want[i] = slices.Clone(first[i])
	}
	before = slices.Clone(in[:cap(in)])
	for i := range again {
		fill(again[i])
		for j := i + 1; j < len(again); j++ {
			if !bytes.Equal(again[j], want[j]) {
				t.Errorf("%s: two lists of an answer share memory", name)
			}
		}
	}
	if !bytes.Equal(in[:cap(in)], before) {
		t.Errorf("%s: the answer shares memory with the argument", name)
	}
	fill(in)
	if !slices.EqualFunc(first, want, bytes.Equal) {
		t.Errorf("%s: the answer shares memory with another one or with the argument", name)
	}
}

func TestMemory(t *testing.T) { // P1.6
	text := []byte{1, 0, 2, 255}
	ownMemory(t, "OrdText", text, func(b []byte) [][]byte { return [][]byte{OrdText(b)} })
	ownMemory(t, "GetOrdText", OrdText(text), func(b []byte) [][]byte {
		got, _, _ := GetOrdText(b, 0)
		return [][]byte{got}
	})
	ownMemory(t, "GetOrdText of plain bytes", OrdText([]byte{7, 8}), func(b []byte) [][]byte {
		got, _, _ := GetOrdText(b, 0)
		return [][]byte{got}
	})
	ownMemory(t, "Frame", text, func(b []byte) [][]byte { return [][]byte{Frame(b, b)} })
	ownMemory(t, "Parts", Frame(text, nil, text, []byte{9}), func(b []byte) [][]byte {
		got, _ := Parts(b)
		return got
	})
	ownMemory(t, "Next", text, func(b []byte) [][]byte { return [][]byte{Next(b)} })
	ownMemory(t, "Next of plain bytes", []byte{1, 2}, func(b []byte) [][]byte { return [][]byte{Next(b)} })
	ownMemory(t, "Cmp and numbers", PutU(300), func(b []byte) [][]byte {
		Cmp(b, text)
		n, _, _ := GetU(b, 0)
		return [][]byte{PutU(n), OrdU(n), OrdI(int64(n))}
	})
	parts := [][]byte{{1}, {2}, {3}}
	Frame(parts[:2]...)
	if !slices.EqualFunc(parts, [][]byte{{1}, {2}, {3}}, bytes.Equal) {
		t.Errorf("Frame: the list of parts is changed")
	}
}

// FuzzAll: every call ends without a panic; beside an error all is zero; what is read is what would be written.
func FuzzAll(f *testing.F) { // P1
	for _, at := range []int{0, 1, -1, 3, 9, 10, 11, math.MinInt, math.MaxInt} {
		for _, b := range [][]byte{nil, {0}, {0, 1}, {128, 0}, {172, 2}, {0, 255, 7, 0, 1}, {0, 3}, {1, 1, 0}, bytes.Repeat([]byte{255}, 11), bytes.Repeat([]byte{128}, 11)} {
			f.Add(b, at)
		}
	}
	f.Fuzz(func(t *testing.T, b []byte, at int) {
		holds := func(name string, zero bool, written []byte, next int, e api.Errno) {
			if e != api.OK && (!zero || next != 0) {
				t.Errorf("%s(%v, %d): something beside the error %v", name, b, at, e)
			}
			if (e == api.ErrArg) != (at < 0 || at > len(b)) {
				t.Errorf("%s(%v, %d): %v", name, b, at, e)
			}
			if e == api.OK && !bytes.Equal(written, b[at:next]) {
				t.Errorf("%s(%v, %d): not as it would be written", name, b, at)
			}
		}
		n, next, e := GetU(b, at)
		holds("GetU", n == 0, PutU(n), next, e)
		n, next, e = GetOrdU(b, at)
		holds("GetOrdU", n == 0, OrdU(n), next, e)
		i, next, e := GetOrdI(b, at)
		holds("GetOrdI", i == 0, OrdI(i), next, e)
		text, next, e := GetOrdText(b, at)
		holds("GetOrdText", len(text) == 0, OrdText(text), next, e)
		parts, e := Parts(b)
		if e == api.OK && !bytes.Equal(Frame(parts...), b) || e != api.OK && len(parts) != 0 {
			t.Errorf("Parts(%v) = %v, %v", b, parts, e)
		}
		if above := Next(b); above != nil && Cmp(above, b) != 1 {
			t.Errorf("Next(%v) = %v", b, above)
		}
	})
}
