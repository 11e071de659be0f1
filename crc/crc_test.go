package crc

import (
	"bytes"
	"hash/crc32"
	"math"
	"math/bits"
	"slices"
	"testing"

	"caisson/api"
)

// plainSum is the sum, bit by bit, by the words of the document.
func plainSum(b []byte) uint32 {
	register := uint32(1<<32 - 1)
	for _, c := range b {
		register ^= uint32(c)
		for range 8 {
			if register&1 == 1 {
				register = register>>1 ^ 0xEDB88320
			} else {
				register >>= 1
			}
		}
	}
	return ^register
}

// some makes so many bytes that look like nothing.
func some(size int) []byte {
	out := make([]byte, size)
	n := uint32(size + 1)
	for i := range out {
		n = n*1664525 + 1013904223
		out[i] = byte(n >> 24)
	}
	return out
}

// record is what Seal should make of the parts.
func record(parts ...[]byte) []byte {
	b := slices.Concat(parts...)
	n := len(b)
	head := []byte{byte(n >> 24), byte(n >> 16), byte(n >> 8), byte(n)}
	sum := plainSum(slices.Concat(head, b))
	return slices.Concat(head, []byte{byte(sum >> 24), byte(sum >> 16), byte(sum >> 8), byte(sum)}, b)
}

func TestSum(t *testing.T) { // P3.1
	for _, c := range []struct {
		parts [][]byte
		want  uint32
	}{
		{nil, 0}, {[][]byte{nil}, 0}, {[][]byte{{}, nil, {}}, 0},
		{[][]byte{[]byte("123456789")}, 0xcbf43926},
		{[][]byte{[]byte("1234"), nil, []byte("5"), []byte("6789")}, 0xcbf43926},
		{[][]byte{{0, 0, 0, 0}}, 0x2144df1c}, {[][]byte{{0}}, 0xd202ef8d}, {[][]byte{{255}}, 0xff000000}, {[][]byte{{255, 255, 255, 255}}, 0xffffffff},
	} {
		if got := Sum(c.parts...); got != c.want {
			t.Errorf("Sum(%v) = %x", c.parts, got)
		}
	}
	for _, size := range []int{0, 1, 2, 3, 4, 5, 7, 8, 255, 256, 257, 5000} {
		b := some(size)
		if got := Sum(b); got != plainSum(b) || got != crc32.ChecksumIEEE(b) {
			t.Errorf("Sum of %d bytes = %x", size, got)
		}
		for cut := 0; cut <= size; cut += 1 + size/10 {
			if got := Sum(b[:cut], b[cut:]); got != plainSum(b) {
				t.Errorf("Sum of %d bytes, cut at %d = %x", size, cut, got)
			}
		}
	}
}

func TestTable(t *testing.T) { // P3.1
	table := Table()
	for i := range table {
		register := uint32(i)
		for range 8 {
			if register&1 == 1 {
				register = register>>1 ^ 0xEDB88320
			} else {
				register >>= 1
			}
		}
		if table[i] != register {
			t.Errorf("Table()[%d] = %x", i, table[i])
		}
	}
	if table[0] != 0 || table[1] != 0x77073096 || table[128] != 0xedb88320 || table[255] != 0x2d02ef8d {
		t.Errorf("Table() = %x", table)
	}
	clear(table[:])
	if Table()[1] != 0x77073096 || Sum([]byte{0}) != 0xd202ef8d {
		t.Errorf("Table: what it answered is kept")
	}
}

func TestSealBytes(t *testing.T) { // P3.2
	for _, c := range []struct {
		parts [][]byte
		want  []byte
	}{
		{nil, []byte{0, 0, 0, 0, 0x21, 0x44, 0xdf, 0x1c}},
		{[][]byte{nil, {}}, []byte{0, 0, 0, 0, 0x21, 0x44, 0xdf, 0x1c}},
		{[][]byte{{1}, nil, {2, 3}}, record([]byte{1, 2, 3})},
		{[][]byte{some(255)}, record(some(255))}, {[][]byte{some(256)}, record(some(256))}, {[][]byte{some(65536), {9}}, record(some(65536), []byte{9})},
	} {
		if got, e := Seal(c.parts...); !bytes.Equal(got, c.want) || e != api.OK {
			t.Errorf("Seal of %d parts: %d bytes, %v", len(c.parts), len(got), e)
		}
	}
	if b, _ := Seal(some(0x010203)); !slices.Equal(b[:4], []byte{0, 1, 2, 3}) {
		t.Errorf("the length's bytes: %v", b[:4])
	}
}

func TestSealSize(t *testing.T) { // P3.2
	most := some(api.MaxRecord)
	b, e := Seal(most)
	if e != api.OK || !bytes.Equal(b, record(most)) {
		t.Errorf("Seal of MaxRecord bytes: %d bytes, %v", len(b), e)
	}
	if got, next, e := Open(b, 0); !bytes.Equal(got, most) || next != api.MaxRecord+8 || e != api.OK {
		t.Errorf("Open of MaxRecord bytes: %d bytes, %d, %v", len(got), next, e)
	}
	if b, e := Seal(most[:1], nil, most[1:]); len(b) != api.MaxRecord+8 || e != api.OK {
		t.Errorf("Seal of MaxRecord bytes in parts: %d bytes, %v", len(b), e)
	}
	many := make([][]byte, 4096)
	for i := range many {
		many[i] = most[:1<<20>>8]
	}
	for _, parts := range [][][]byte{{most, {1}}, {{1}, most}, {most[:1<<19], most[1<<19:], nil, {0}}, {make([]byte, api.MaxRecord+1)}, {most, most}, many, {make([]byte, 1<<24)}} {
		if b, e := Seal(parts...); len(b) != 0 || e != api.ErrSize {
			t.Errorf("Seal of too many bytes: %d bytes, %v", len(b), e)
		}
	}
}

func TestOpenUndoesSeal(t *testing.T) { // P3.2
	for _, size := range []int{0, 1, 2, 7, 8, 9, 255, 256, 300, 65535, 65536} {
		inside := some(size)
		sealed, _ := Seal(inside)
		for _, ahead := range []int{0, 1, 4, 8, 100} {
			b := slices.Concat(some(ahead), sealed, []byte{1, 2, 3})
			got, next, e := Open(b, ahead)
			if !bytes.Equal(got, inside) || next != ahead+size+8 || e != api.OK {
				t.Errorf("Open of %d sealed bytes behind %d others: %d bytes, %d, %v", size, ahead, len(got), next, e)
			}
		}
	}
}

func TestOpenErrors(t *testing.T) { // P3.2
	abc := record([]byte("abc"))
	spoilt := slices.Concat(abc[:10], []byte{0})
	tooLong := []byte{0, 16, 0, 1, 9, 9, 9, 9}
	for _, c := range []struct {
		b  []byte
		at int
		e  api.Errno
	}{
		{nil, 0, api.ErrEnd}, {nil, 1, api.ErrArg}, {nil, -1, api.ErrArg}, {abc, -1, api.ErrArg}, {abc, 12, api.ErrArg}, {abc, math.MinInt, api.ErrArg}, {abc, math.MaxInt, api.ErrArg},
		{abc, 11, api.ErrEnd}, {abc, 4, api.ErrEnd}, {abc[:7], 0, api.ErrEnd}, {abc[:8], 0, api.ErrEnd}, {abc[:10], 0, api.ErrEnd},
		{spoilt, 0, api.ErrSum}, {spoilt[:10], 0, api.ErrEnd}, // too short, ahead of any look at the sum
		{[]byte{255, 0, 0, 0, 0, 0, 0, 0}, 0, api.ErrSize}, {bytes.Repeat([]byte{255}, 8), 0, api.ErrSize}, {bytes.Repeat([]byte{255}, 7), 0, api.ErrEnd},
		{[]byte{128, 0, 0, 0, 0, 0, 0, 0}, 0, api.ErrSize}, {[]byte{127, 255, 255, 255, 0, 0, 0, 0}, 0, api.ErrSize},
		{tooLong, 0, api.ErrSize}, {tooLong[:7], 0, api.ErrEnd}, {[]byte{0, 16, 0, 0, 9, 9, 9, 9}, 0, api.ErrEnd}, {append(tooLong, make([]byte, api.MaxRecord+1)...), 0, api.ErrSize},
		{make([]byte, 8), 0, api.ErrSum}, {make([]byte, 7), 0, api.ErrEnd},
		{slices.Concat(abc[:4], []byte{0, 0, 0, 0}, abc[8:]), 0, api.ErrSum}, {slices.Concat([]byte{0, 0, 0, 2}, abc[4:]), 0, api.ErrSum},
	} {
		if got, next, e := Open(c.b, c.at); len(got) != 0 || next != 0 || e != c.e {
			t.Errorf("Open(%v, %d) = %v, %d, %v; want the error %v", c.b[:min(len(c.b), 20)], c.at, got, next, e, c.e)
		}
	}
	if got, next, e := Open(record(), 0); len(got) != 0 || next != 8 || e != api.OK {
		t.Errorf("Open of nothing sealed = %v, %d, %v", got, next, e)
	}
}

func TestOpenAll(t *testing.T) { // P3.3
	parts := [][]byte{some(5), nil, some(300), some(1), nil}
	var whole []byte
	var ends []int
	for _, p := range parts {
		whole = append(whole, record(p)...)
		ends = append(ends, len(whole))
	}
	for cut := range len(whole) + 1 { // what isn't whole, and what stands behind it, isn't answered
		n, at := 0, 0
		for n < len(ends) && ends[n] <= cut {
			at = ends[n]
			n++
		}
		if got, next := OpenAll(whole[:cut]); next != at || !slices.EqualFunc(got, parts[:n], bytes.Equal) {
			t.Fatalf("OpenAll of the first %d bytes: %d records, %d", cut, len(got), next)
		}
	}
	for i := range whole {
		n, at := 0, 0
		for ends[n] <= i {
			at = ends[n]
			n++
		}
		spoilt := slices.Clone(whole)
		spoilt[i] ^= 4
		if got, next := OpenAll(spoilt); next != at || !slices.EqualFunc(got, parts[:n], bytes.Equal) {
			t.Fatalf("OpenAll, spoilt at %d: %d records, %d", i, len(got), next)
		}
	}
	if got, next := OpenAll(append(slices.Clone(whole), 255, 255, 255, 255, 0, 0, 0, 0)); len(got) != 5 || next != len(whole) {
		t.Errorf("OpenAll with a length that is too great behind: %d records, %d", len(got), next)
	}
}

// flip changes b's bits from the bit at on, as pattern says; bits count from each byte's lowest one on.
func flip(b []byte, at int, pattern uint32) []byte {
	out := slices.Clone(b)
	for ; pattern != 0; pattern >>= 1 {
		if pattern&1 == 1 {
			out[at/8] ^= 1 << (at % 8)
		}
		at++
	}
	return out
}

func TestNearBits(t *testing.T) { // P3.4
	inside := some(24)
	sum, sealed := Sum(inside), record(inside)
	for at := range 8 * len(inside) {
		pattern := uint32(at)
		for i := range 300 {
			switch {
			case i < 32:
				pattern = 1<<i | 1
			case i < 64:
				pattern = math.MaxUint32 >> (i - 32)
			default:
				pattern = pattern*1664525 + 1013904223 | 1
			}
			if at+bits.Len32(pattern) > 8*len(inside) {
				continue
			}
			if Sum(flip(inside, at, pattern)) == sum {
				t.Fatalf("the bits %x at %d leave the sum as it was", pattern, at)
			}
			if got, next, e := Open(flip(sealed, at+64, pattern), 0); len(got) != 0 || next != 0 || e != api.ErrSum {
				t.Fatalf("the bits %x at %d: Open = %v, %d, %v", pattern, at, got, next, e)
			}
		}
	}
}

// roomy is a copy of b with spare room that holds other bytes.
func roomy(b []byte) []byte {
	return append(slices.Clone(b), 0, 1, 2, 255)[:len(b)]
}

// fill writes over a list, its spare room too.
func fill(b []byte) {
	b = b[:cap(b)]
	for i := range b {
		b[i] = 77
	}
}

func TestMemory(t *testing.T) { // P3.5
	x, y := roomy([]byte{1, 2, 3}), roomy([]byte{4})
	parts := [][]byte{x, y, {5}}
	want := record(x, y)
	first, _ := Seal(parts[:2]...)
	again, _ := Seal(parts[:2]...)
	Sum(parts[:2]...)
	fill(again)
	if !slices.Equal(x[:cap(x)][:7], []byte{1, 2, 3, 0, 1, 2, 255}) || !slices.Equal(y[:cap(y)][:5], []byte{4, 0, 1, 2, 255}) || !slices.Equal(parts[2], []byte{5}) {
		t.Errorf("Seal, Sum: the parts are changed: %v", parts)
	}
	fill(x)
	if !bytes.Equal(first, want) {
		t.Errorf("Seal: the answer shares memory with a part or another answer: %v", first)
	}
	alone, _ := Seal(y)
	if fill(alone); y[0] != 4 {
		t.Errorf("Seal: the answer shares memory with its one part")
	}
}

func TestMemoryOfRecords(t *testing.T) { // P3.5
	whole := slices.Concat(record([]byte{1, 2}), record(nil), record([]byte{3}))
	b := roomy(whole)
	before := slices.Clone(b[:cap(b)])
	inside, _, _ := Open(b, 0)
	again, _, _ := Open(b, 0)
	list, _ := OpenAll(b)
	fill(again)
	for i, want := range [][]byte{{1, 2}, {}, {3}} {
		if !bytes.Equal(list[i], want) {
			t.Errorf("OpenAll: record %d shares memory: %v", i, list[i])
		}
		fill(list[i])
	}
	if !bytes.Equal(b[:cap(b)], before) {
		t.Errorf("Open, OpenAll: the argument is changed, or shared")
	}
	fill(b)
	if !slices.Equal(inside, []byte{1, 2}) {
		t.Errorf("Open: the answer shares memory: %v", inside)
	}
	cut := record([]byte{1, 2, 3}) // all there, but for the last byte in spare room
	if got, _, e := Open(cut[:10], 0); len(got) != 0 || e != api.ErrEnd {
		t.Errorf("Open reads the spare room: %v, %v", got, e)
	}
	if got, at := OpenAll(cut[:10]); len(got) != 0 || at != 0 {
		t.Errorf("OpenAll reads the spare room: %v, %d", got, at)
	}
}

// FuzzAll: every call ends without a panic; beside an error all is zero; what opens is just what would be sealed.
func FuzzAll(f *testing.F) { // P1, P3.1 to P3.3
	for _, at := range []int{0, 1, 8, -1, 9, 11, math.MinInt, math.MaxInt} {
		for _, b := range [][]byte{nil, {0}, make([]byte, 8), record(), record([]byte("abc")), append(record([]byte("a")), record()...), {255, 0, 0, 0, 0, 0, 0, 0}, {0, 16, 0, 0, 0, 0, 0, 0}, bytes.Repeat([]byte{255}, 11)} {
			f.Add(b, at)
		}
	}
	f.Fuzz(func(t *testing.T, b []byte, at int) {
		inside, next, e := Open(b, at)
		if e == api.OK && !bytes.Equal(record(inside), b[at:next]) || e != api.OK && (len(inside) != 0 || next != 0) || (e == api.ErrArg) != (at < 0 || at > len(b)) {
			t.Errorf("Open(%v, %d) = %v, %d, %v", b, at, inside, next, e)
		}
		sealed, e := Seal(b)
		if e != api.OK || !bytes.Equal(sealed, record(b)) || Sum(b) != plainSum(b) {
			t.Errorf("Seal(%v) = %v, %v", b, sealed, e)
		}
		list, behind := OpenAll(append(sealed, b...))
		var joined []byte
		for _, p := range list {
			joined = append(joined, record(p)...)
		}
		rest := append(sealed, b...)
		if len(list) == 0 || !bytes.Equal(joined, rest[:behind]) {
			t.Errorf("OpenAll of a record and %v: %d records, %d", b, len(list), behind)
		}
		if _, _, e := Open(rest, behind); e == api.OK {
			t.Errorf("OpenAll of a record and %v ends at %d, ahead of a record", b, behind)
		}
	})
}
