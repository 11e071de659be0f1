package bloom

import (
	"bytes"
	"encoding/binary"
	"hash/fnv"
	"math"
	"math/big"
	"math/rand/v2"
	"slices"
	"testing"

	"caisson/api"
)

// plainBits are a key's bits in a filter of m bits with k hashes, by the words of the document.
func plainBits(key []byte, m, k int) []int {
	sum := fnv.New64a()
	sum.Write(key)
	h := sum.Sum(nil) // the greatest byte first
	a, c := int64(binary.BigEndian.Uint32(h[4:])), int64(binary.BigEndian.Uint32(h[:4]))
	if c%2 == 0 {
		c++
	}
	var out []int
	for i := range k {
		n := new(big.Int).Mul(big.NewInt(int64(i)), big.NewInt(c))
		n.Add(n, big.NewInt(a))
		out = append(out, int(n.Mod(n, big.NewInt(int64(m))).Int64()))
	}
	return out
}

// plainBuild is Build, by the words of the document.
func plainBuild(per int, keys ...[]byte) ([]byte, api.Errno) {
	if per < 1 || per > 100 {
		return nil, 1
	}
	m := len(keys) * per
	if m < 64 {
		m = 64
	}
	for m%8 != 0 {
		m++
	}
	if m/8+1 > 1<<20 {
		return nil, 2
	}
	k := per * 69 / 100
	if k < 1 {
		k = 1
	}
	if k > 30 {
		k = 30
	}
	f := make([]byte, m/8)
	for _, key := range keys {
		for _, bit := range plainBits(key, m, k) {
			if f[bit/8]>>(bit%8)%2 == 0 {
				f[bit/8] += 1 << (bit % 8)
			}
		}
	}
	return append(f, byte(k)), 0
}

// plainMay is May of a filter that is in form.
func plainMay(f, key []byte) bool {
	for _, bit := range plainBits(key, 8*(len(f)-1), int(f[len(f)-1])) {
		if f[bit/8]>>(bit%8)%2 == 0 {
			return false
		}
	}
	return true
}

// keysOf are n keys, no two alike.
func keysOf(n int) [][]byte {
	var out [][]byte
	for i := range n {
		out = append(out, binary.BigEndian.AppendUint32([]byte("key")[:i%4:3], uint32(i)))
	}
	return out
}

// odd are keys that have something about them.
var odd = [][]byte{nil, {0}, {0, 0}, {255}, []byte("a"), []byte("b"), []byte("ab"), bytes.Repeat([]byte{7}, api.MaxKey), bytes.Repeat([]byte{255}, api.MaxKey+1)}

func TestExamples(t *testing.T) { // P9.1, P9.2
	if h := Hash([]byte{}); h != 14695981039346656037 {
		t.Errorf("Hash of nothing = %d", h)
	}
	if f, e := Build(10); e != api.OK || !bytes.Equal(f, []byte{0, 0, 0, 0, 0, 0, 0, 0, 6}) {
		t.Errorf("Build(10) = %v, %v", f, e)
	}
	if f, e := Build(0); len(f) != 0 || e != api.ErrArg {
		t.Errorf("Build(0) = %v, %v", f, e)
	}
	for i, c := range []struct {
		f    []byte
		want bool
		e    api.Errno
	}{{nil, false, api.ErrForm}, {[]byte{255, 1}, true, api.OK}, {[]byte{0, 1}, false, api.OK}} {
		if may, e := May(c.f, []byte("a")); may != c.want || e != c.e {
			t.Errorf("May, example %d: %v, %v", i, may, e)
		}
	}
}

func TestHash(t *testing.T) { // P9.1
	for key, want := range map[string]uint64{"": 0xcbf29ce484222325, "a": 0xaf63dc4c8601ec8c, "foobar": 0x85944171f73967e8, "\x00": 0xaf63bd4c8601b7df, "\xff": 0xaf64724c8602eb6e} {
		if got := Hash([]byte(key)); got != want {
			t.Errorf("Hash(%q) = %x; want %x", key, got, want)
		}
	}
	for _, key := range append(keysOf(1000), odd...) {
		sum := fnv.New64a()
		sum.Write(key)
		if got := Hash(key); got != sum.Sum64() {
			t.Errorf("Hash(%q) = %x; want %x", key, got, sum.Sum64())
		}
	}
	if Hash(nil) != Hash([]byte{}) {
		t.Errorf("Hash of nil isn't that of an empty list")
	}
}

func TestBuildBytes(t *testing.T) { // P9.1: told by hand
	// of a: the bits 2248273036 + i * 2942557261 (its lowest bit was 0) mod 64 = 12, 25, 38, 51, 0, 13
	if f, e := Build(10, []byte("a")); e != api.OK || !bytes.Equal(f, []byte{1, 16 + 32, 0, 2, 64, 0, 8, 0, 6}) {
		t.Errorf("Build of a = %v, %v", f, e)
	}
	if f, e := Build(1, []byte("a")); e != api.OK || !bytes.Equal(f, []byte{0, 16, 0, 0, 0, 0, 0, 0, 1}) {
		t.Errorf("Build(1) of a = %v, %v", f, e)
	}
	for per, k := range map[int]byte{1: 1, 2: 1, 3: 2, 4: 2, 5: 3, 10: 6, 42: 28, 43: 29, 44: 30, 45: 30, 99: 30, 100: 30} {
		if f, e := Build(per); e != api.OK || !bytes.Equal(f, append(make([]byte, 8), k)) {
			t.Errorf("Build(%d) = %v, %v; want %d hashes", per, f, e, k)
		}
	}
	for _, c := range []struct{ per, n, size int }{{1, 63, 8}, {1, 64, 8}, {1, 65, 9}, {1, 72, 9}, {1, 73, 10}, {10, 6, 8}, {10, 7, 9}, {10, 8, 10}, {10, 9, 12}, {100, 1, 13}, {100, 2, 25}, {64, 1, 8}, {65, 1, 9}} {
		if f, e := Build(c.per, keysOf(c.n)...); e != api.OK || len(f) != c.size+1 {
			t.Errorf("Build(%d) of %d keys has %d bytes, %v; want %d", c.per, c.n, len(f), e, c.size+1)
		}
	}
}

func TestBuildAndMay(t *testing.T) { // P9.1, P9.2
	others := append(keysOf(700)[600:], odd...)
	for per := -2; per <= 103; per++ {
		for _, keys := range [][][]byte{nil, odd[:1], odd, slices.Repeat(odd[4:5], 70), keysOf(3), keysOf(64), keysOf(301)} {
			f, e := Build(per, keys...)
			want, we := plainBuild(per, keys...)
			if e != we || !bytes.Equal(f, want) {
				t.Fatalf("Build(%d) of %d keys = %v, %v; want %v, %v", per, len(keys), f, e, want, we)
			}
			if e != api.OK {
				continue
			}
			for _, key := range keys {
				if may, e := May(f, key); !may || e != api.OK {
					t.Fatalf("per %d: May(%q), which was put in = %v, %v", per, key, may, e)
				}
			}
			for _, key := range others {
				if may, e := May(f, key); may != plainMay(f, key) || e != api.OK {
					t.Fatalf("per %d: May(%q) = %v, %v", per, key, may, e)
				}
			}
		}
	}
}

func TestFewAreMistaken(t *testing.T) { // P9.2: the hashes do what they are there for
	all := keysOf(11000)
	f, _ := Build(10, all[:1000]...)
	mistaken := 0
	for _, key := range all[1000:] {
		if may, _ := May(f, key); may {
			mistaken++
		}
	}
	if mistaken == 0 || mistaken > 300 {
		t.Errorf("%d of 10000 keys that weren't put in may be in", mistaken)
	}
}

func TestBuildErrors(t *testing.T) { // P9.1
	for _, per := range []int{0, -1, 101, 1000, math.MaxInt, math.MinInt, 1<<32 + 1} {
		for _, keys := range [][][]byte{nil, odd, make([][]byte, 1<<23+1)} {
			if f, e := Build(per, keys...); len(f) != 0 || e != api.ErrArg {
				t.Errorf("Build(%d) of %d keys: %d bytes, %v", per, len(keys), len(f), e)
			}
		}
	}
	many := make([][]byte, 1<<23+8)
	for _, c := range []struct {
		per, n int
		want   api.Errno
	}{{1, 1<<23 - 9, api.OK}, {1, 1<<23 - 8, api.OK}, {1, 1<<23 - 7, api.ErrSize}, {1, 1 << 23, api.ErrSize}, {1, 1<<23 + 8, api.ErrSize}, {8, 1<<20 - 1, api.OK}, {8, 1 << 20, api.ErrSize}, {100, 83886, api.OK}, {100, 83887, api.ErrSize}, {100, 1<<23 + 8, api.ErrSize}} {
		f, e := Build(c.per, many[:c.n]...)
		if e != c.want || e == api.OK && len(f) != min(api.MaxRecord, (c.n*c.per+7)/8+1) || e != api.OK && len(f) != 0 {
			t.Errorf("Build(%d) of %d keys: %d bytes, %v; want %v", c.per, c.n, len(f), e, c.want)
		}
	}
}

func TestMayForm(t *testing.T) { // P9.2: any bytes
	for size := range 5 {
		for last := range 256 {
			f := bytes.Repeat([]byte{255}, size+1)
			f[size] = byte(last)
			may, e := May(f, []byte("a"))
			if fine := size >= 1 && last >= 1 && last <= 30; fine && (!may || e != api.OK) || !fine && (may || e != api.ErrForm) {
				t.Errorf("May in %v = %v, %v", f, may, e)
			}
		}
	}
	if may, e := May([]byte{}, nil); may || e != api.ErrForm {
		t.Errorf("May in nothing = %v, %v", may, e)
	}
}

func TestMayEachBit(t *testing.T) { // P9.2: a key may be in just if each of its bits is set
	for _, key := range odd {
		for size := 1; size < 20; size++ {
			for k := 1; k <= 30; k++ {
				full := append(bytes.Repeat([]byte{255}, size), byte(k))
				alone := append(make([]byte, size), byte(k))
				bits := plainBits(key, 8*size, k)
				for _, bit := range bits {
					alone[bit/8] |= 1 << (bit % 8)
				}
				if may, e := May(alone, key); !may || e != api.OK {
					t.Fatalf("May(%q) with its own bits alone, %v = %v, %v", key, alone, may, e)
				}
				for bit := range 8 * size {
					full[bit/8] ^= 1 << (bit % 8)
					if may, e := May(full, key); may == slices.Contains(bits, bit) || e != api.OK {
						t.Fatalf("May(%q) with all bits but %d, of %d, %d hashes = %v, %v", key, bit, 8*size, k, may, e)
					}
					full[bit/8] ^= 1 << (bit % 8)
				}
			}
		}
	}
}

func TestUnion(t *testing.T) { // P9.3
	for _, per := range []int{1, 7, 10, 33, 100} {
		for n := range 40 {
			keys := keysOf(2 * n)
			a, _ := Build(per, keys[:n]...)
			b, _ := Build(per, keys[n:]...)
			f, e := Union(a, b)
			back, e2 := Union(b, a)
			if e != api.OK || e2 != api.OK || !bytes.Equal(f, back) || len(f) != len(a) || f[len(f)-1] != a[len(a)-1] {
				t.Fatalf("Union of %v and %v = %v, %v; the other way %v, %v", a, b, f, e, back, e2)
			}
			for i := range f[:len(f)-1] {
				for bit := range 8 {
					if f[i]>>bit%2 == 1 != (a[i]>>bit%2 == 1 || b[i]>>bit%2 == 1) {
						t.Fatalf("Union of %v and %v = %v", a, b, f)
					}
				}
			}
			for _, key := range keys {
				if may, e := May(f, key); !may || e != api.OK {
					t.Fatalf("May(%q), which may be in one of them = %v, %v", key, may, e)
				}
			}
		}
	}
	if f, e := Union([]byte{1, 2, 4, 30}, []byte{3, 0, 8, 30}); e != api.OK || !bytes.Equal(f, []byte{3, 2, 12, 30}) {
		t.Errorf("Union = %v, %v", f, e)
	}
}

func TestUnionErrors(t *testing.T) { // P9.3
	fine := [][]byte{{1, 1}, {1, 2}, {1, 30}, {1, 1, 1}, {0, 0, 0, 1}}
	bad := [][]byte{nil, {}, {1}, {0}, {1, 0}, {1, 31}, {1, 255}, {1, 1, 0}, {1, 1, 31}}
	for _, a := range append(slices.Clone(fine), bad...) {
		for _, b := range bad {
			if f, e := Union(a, b); len(f) != 0 || e != api.ErrForm {
				t.Errorf("Union of %v and %v = %v, %v", a, b, f, e)
			}
			if f, e := Union(b, a); len(f) != 0 || e != api.ErrForm {
				t.Errorf("Union of %v and %v = %v, %v", b, a, f, e)
			}
		}
	}
	for i, a := range fine {
		for j, b := range fine {
			f, e := Union(a, b)
			if i == j && (e != api.OK || !bytes.Equal(f, a)) || i != j && (e != api.ErrArg || len(f) != 0) {
				t.Errorf("Union of %v and %v = %v, %v", a, b, f, e)
			}
		}
	}
}

// roomy is a copy of b with spare room that holds other bytes.
func roomy(b []byte) []byte {
	return append(slices.Clone(b), 0, 1, 2, 255)[:len(b)]
}

// fill writes over a list, its spare room too.
func fill(b []byte) {
	b = b[:cap(b)]
	for i := range b {
		b[i] = 77
	}
}

// kept looks whether a list that roomy made still is as it was.
func kept(t *testing.T, call string, b, was []byte) {
	t.Helper()
	if !bytes.Equal(b[:len(b)+4], append(slices.Clone(was), 0, 1, 2, 255)) {
		t.Errorf("%s: what was handed in is changed: %v", call, b[:len(b)+4])
	}
}

func TestMemory(t *testing.T) { // P9.4
	keys := [][]byte{roomy([]byte("a")), roomy([]byte("bc")), roomy(nil), []byte("d")}
	want, _ := plainBuild(10, keys[:3]...)
	f, _ := Build(10, keys[:3]...)
	again, _ := Build(10, keys[:3]...)
	fill(again)
	for i, key := range []string{"a", "bc", ""} {
		Hash(keys[i])
		May(f, keys[i])
		kept(t, "Build", keys[i], []byte(key))
		fill(keys[i])
	}
	if len(keys) != 4 || string(keys[3]) != "d" || !bytes.Equal(f, want) {
		t.Errorf("Build: the answer shares memory: %v; want %v", f, want)
	}

	a, b := roomy([]byte{1, 2, 6}), roomy([]byte{4, 0, 6})
	f, _ = Union(a, b)
	again, _ = Union(a, b)
	May(a, []byte("a"))
	kept(t, "Union", a, []byte{1, 2, 6})
	kept(t, "Union", b, []byte{4, 0, 6})
	fill(again)
	kept(t, "Union, its answer written over", a, []byte{1, 2, 6})
	kept(t, "Union, its answer written over", b, []byte{4, 0, 6})
	fill(a)
	fill(b)
	if !bytes.Equal(f, []byte{5, 2, 6}) {
		t.Errorf("Union: the answer shares memory: %v", f)
	}
}

func TestAnyFilter(t *testing.T) { // P1, P9.2, P9.3
	r := rand.New(rand.NewPCG(9, 1))
	for range 3000 {
		a := make([]byte, r.IntN(6))
		for i := range a {
			a[i] = byte(r.Uint32()) | byte(r.Uint32())
		}
		b := slices.Clone(a)
		for i := range b {
			b[i] ^= byte(r.IntN(256) * r.IntN(2))
		}
		holds(t, a, b, []byte{byte(r.Uint32()), byte(r.Uint32())}[:r.IntN(3)])
	}
}

// holds looks whether May and Union answer of any bytes what they should.
func holds(t *testing.T, a, b, key []byte) {
	t.Helper()
	fine := func(f []byte) bool { return len(f) >= 2 && f[len(f)-1] >= 1 && f[len(f)-1] <= 30 }
	may, e := May(a, key)
	if fine(a) && (e != api.OK || may != plainMay(a, key)) || !fine(a) && (e != api.ErrForm || may) {
		t.Fatalf("May(%v, %q) = %v, %v", a, key, may, e)
	}
	f, e := Union(a, b)
	switch {
	case !fine(a) || !fine(b):
		if e != api.ErrForm || len(f) != 0 {
			t.Fatalf("Union(%v, %v) = %v, %v", a, b, f, e)
		}
	case len(a) != len(b) || a[len(a)-1] != b[len(b)-1]:
		if e != api.ErrArg || len(f) != 0 {
			t.Fatalf("Union(%v, %v) = %v, %v", a, b, f, e)
		}
	default:
		if in, _ := May(f, key); e != api.OK || may && !in {
			t.Fatalf("Union(%v, %v) = %v, %v; May(%q) = %v", a, b, f, e, key, in)
		}
	}
}

// FuzzAll: Build as plainBuild, of any keys; May and Union of any bytes.
func FuzzAll(f *testing.F) { // P1, P9.1 to P9.3
	f.Add(10, []byte("a"), []byte("b"), uint16(3), []byte{255, 1}, []byte{0, 1})
	f.Add(0, []byte{}, []byte{0}, uint16(300), []byte{}, []byte{0, 31})
	f.Add(100, []byte{}, []byte{0}, uint16(1000), []byte{1, 2, 3}, []byte{4, 5, 3})
	f.Fuzz(func(t *testing.T, per int, one, two []byte, times uint16, a, b []byte) {
		keys := append(slices.Repeat([][]byte{one}, int(times%2000)), two)
		got, e := Build(per, keys...)
		if want, we := plainBuild(per, keys...); e != we || !bytes.Equal(got, want) {
			t.Fatalf("Build(%d) of %q, %d times, and %q = %v, %v; want %v, %v", per, one, times, two, got, e, want, we)
		}
		if e == api.OK {
			for _, key := range keys {
				if may, e := May(got, key); !may || e != api.OK {
					t.Fatalf("May(%v, %q) = %v, %v", got, key, may, e)
				}
			}
		}
		holds(t, a, b, one)
		holds(t, b, a, two)
	})
}
