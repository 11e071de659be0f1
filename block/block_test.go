package block

import (
	"bytes"
	"encoding/binary"
	"math"
	"math/bits"
	"math/rand/v2"
	"runtime"
	"slices"
	"testing"

	"caisson/api"
	"caisson/crc"
)

// put is a Put of a key.
func put(key string, seq uint64, value string) api.Entry {
	return api.Entry{Key: []byte(key), Seq: seq, Kind: api.Put, Value: []byte(value)}
}

// gone is a Delete of a key.
func gone(key string, seq uint64) api.Entry {
	return api.Entry{Key: []byte(key), Seq: seq, Kind: api.Delete}
}

// same: are these alike, an empty list and nil too?
func same(a, b api.Entry) bool {
	return bytes.Equal(a.Key, b.Key) && a.Seq == b.Seq && a.Kind == b.Kind && bytes.Equal(a.Value, b.Value)
}

// seal is the record of some bytes.
func seal(parts ...[]byte) []byte {
	b, _ := crc.Seal(parts...)
	return b
}

// u is a number in groups of seven bits.
func u[T int | uint64](n T) []byte { return binary.AppendUvarint(nil, uint64(n)) }

// told are the bytes of one entry, with these numbers, whether they fit or not.
func told(shared, left, seq uint64, kind byte, size uint64, rest, value string) []byte {
	return slices.Concat(u(shared), u(left), u(seq), []byte{kind}, u(size), []byte(rest), []byte(value))
}

// plainBytes is what is sealed in a block, by the words of the document.
func plainBytes(every int, list []api.Entry) []byte {
	var out []byte
	var places []int
	for i, x := range list {
		shared := 0
		if i%every == 0 {
			places = append(places, len(out))
		} else {
			for shared < len(x.Key) && bytes.HasPrefix(list[i-1].Key, x.Key[:shared+1]) {
				shared++
			}
		}
		out = append(out, told(uint64(shared), uint64(len(x.Key)-shared), x.Seq, x.Kind, uint64(len(x.Value)), string(x.Key[shared:]), string(x.Value))...)
	}
	for _, n := range append(places, len(places)) {
		out = binary.BigEndian.AppendUint32(out, uint32(n))
	}
	return out
}

// plainBuild is Build, by the words of the document.
func plainBuild(every int, list ...api.Entry) ([]byte, api.Errno) {
	if every < 1 {
		return nil, 1
	}
	bad := false
	for i, x := range list {
		if len(x.Key) > 1024 || len(x.Value) > 65536 {
			return nil, 2
		}
		bad = bad || x.Kind != 1 && x.Kind != 2 || x.Kind == 2 && len(x.Value) > 0
		if i > 0 {
			y := list[i-1]
			bad = bad || string(y.Key) > string(x.Key) || string(y.Key) == string(x.Key) && y.Seq <= x.Seq
		}
	}
	b := plainBytes(every, list)
	if len(b) > 1<<20 {
		return nil, 2
	}
	if bad {
		return nil, 3
	}
	return seal(b), 0
}

// plainSeek is what Seek should find.
func plainSeek(list []api.Entry, key []byte, at uint64) (api.Entry, bool) {
	for _, x := range list {
		if string(x.Key) > string(key) || string(x.Key) == string(key) && x.Seq <= at {
			return x, true
		}
	}
	return api.Entry{}, false
}

// lists are some lists of entries in order.
func lists() [][]api.Entry {
	chain := []api.Entry{gone("", math.MaxUint64), put("", 5, "v"), put("a", 9, "x"), gone("a", 3), put("a", 0, ""), put("ab", 300, "y"), gone("abc", 128), put("abd", 127, "\x00\x01"), put("b", 1, "z"), gone("b\x00", 1<<63), put("ba", 1<<63-1, "zz"), put("\xff", 2, ""), put("\xff\xff", 2, "end")}
	var out [][]api.Entry
	for from := range chain {
		for to := from; to <= len(chain); to++ {
			out = append(out, chain[from:to])
		}
	}
	long := bytes.Repeat([]byte{7}, api.MaxKey)
	value := bytes.Repeat([]byte{9}, api.MaxValue)
	return append(out, []api.Entry{{Key: long[:127], Seq: 1, Kind: api.Put}, {Key: long[:128], Seq: 1, Kind: api.Put, Value: value[:127]}, {Key: long[:129], Seq: 1, Kind: api.Put, Value: value[:128]}, {Key: long[:300], Seq: 1, Kind: api.Delete}, {Key: long, Seq: 2, Kind: api.Put, Value: value}, {Key: long, Seq: 1, Kind: api.Put, Value: value}})
}

// everies are numbers to build with.
var everies = []int{1, 2, 3, 4, 5, 7, 12, 13, 14, 100, math.MaxInt32, math.MaxInt}

// keys are some to seek for.
var keys = [][]byte{nil, {}, {0}, []byte("a"), []byte("a\x00"), []byte("aa"), []byte("ab"), []byte("abc"), []byte("abcd"), []byte("abd"), []byte("b"), []byte("b\x00"), []byte("ba"), []byte("c"), {255}, {255, 0}, {255, 255}, {255, 255, 0}, bytes.Repeat([]byte{7}, 128), bytes.Repeat([]byte{7}, 1024), bytes.Repeat([]byte{7}, 5000), bytes.Repeat([]byte{255}, 5000)}

// moments are some numbers to seek for.
var moments = []uint64{0, 1, 2, 3, 4, 5, 8, 9, 10, 126, 127, 128, 129, 299, 300, 301, 1<<63 - 1, 1 << 63, math.MaxUint64 - 1, math.MaxUint64}

// refused looks whether b is refused with this error, whatever is sought.
func refused(t *testing.T, name string, b []byte, want api.Errno) {
	t.Helper()
	if got, e := Decode(b); len(got) != 0 || e != want {
		t.Errorf("%s: Decode = %v, %v; want the error %v", name, got, e, want)
	}
	for _, key := range [][]byte{nil, []byte("a"), {255, 255, 255}} {
		if x, ok, e := Seek(b, key, math.MaxUint64); !same(x, api.Entry{}) || ok || e != want {
			t.Errorf("%s: Seek = %v, %v, %v; want the error %v", name, x, ok, e, want)
		}
	}
}

func TestExamples(t *testing.T) { // P8.1, P8.2
	if b, e := Build(2); e != api.OK || !bytes.Equal(b, seal([]byte{0, 0, 0, 0})) {
		t.Errorf("Build of none = %v, %v", b, e)
	}
	b, e := Build(2, put("ab", 5, "x"), gone("abc", 7))
	if e != api.OK || !bytes.Equal(b, seal([]byte{0, 2, 5, 1, 1, 97, 98, 120, 2, 1, 7, 2, 0, 99, 0, 0, 0, 0, 0, 0, 0, 1})) {
		t.Errorf("Build = %v, %v", b, e)
	}
	if b, e := Build(0); len(b) != 0 || e != api.ErrArg {
		t.Errorf("Build(0) = %v, %v", b, e)
	}
	if b, e := Build(1, put("b", 1, ""), put("a", 1, "")); len(b) != 0 || e != api.ErrForm {
		t.Errorf("Build out of order = %v, %v", b, e)
	}
	refused(t, "8 noughts", make([]byte, 8), api.ErrSum)
	refused(t, "nothing", nil, api.ErrEnd)
}

func TestBuildBytes(t *testing.T) { // P8.1
	list := []api.Entry{put("ab", 5, "x"), gone("abc", 7), put("abd", 300, "yz"), put("abd", 0, "")}
	first, last := []byte{0, 2, 5, 1, 1, 97, 98, 120}, []byte{3, 0, 0, 1, 0}
	for every, want := range map[int][]byte{
		1: slices.Concat(first, []byte{0, 3, 7, 2, 0, 97, 98, 99, 0, 3, 172, 2, 1, 2, 97, 98, 100, 121, 122, 0, 3, 0, 1, 0, 97, 98, 100}, []byte{0, 0, 0, 0, 0, 0, 0, 8, 0, 0, 0, 16, 0, 0, 0, 27, 0, 0, 0, 4}),
		2: slices.Concat(first, []byte{2, 1, 7, 2, 0, 99, 0, 3, 172, 2, 1, 2, 97, 98, 100, 121, 122}, last, []byte{0, 0, 0, 0, 0, 0, 0, 14, 0, 0, 0, 2}),
		3: slices.Concat(first, []byte{2, 1, 7, 2, 0, 99, 2, 1, 172, 2, 1, 2, 100, 121, 122, 0, 3, 0, 1, 0, 97, 98, 100}, []byte{0, 0, 0, 0, 0, 0, 0, 23, 0, 0, 0, 2}),
		4: slices.Concat(first, []byte{2, 1, 7, 2, 0, 99, 2, 1, 172, 2, 1, 2, 100, 121, 122}, last, []byte{0, 0, 0, 0, 0, 0, 0, 1}),
	} {
		if b, e := Build(every, list...); e != api.OK || !bytes.Equal(b, seal(want)) {
			t.Errorf("Build(%d) = %v, %v; want the record of %v", every, b, e, want)
		}
	}
}

func TestBuildAndBack(t *testing.T) { // P8.1, P8.2, P8.3
	for _, list := range lists() {
		for _, every := range everies {
			b, e := Build(every, list...)
			if want, we := plainBuild(every, list...); e != we || e != api.OK || !bytes.Equal(b, want) {
				t.Fatalf("Build(%d, %v) = %v, %v; want %v, %v", every, list, b, e, want, we)
			}
			back, e := Decode(b)
			if e != api.OK || !slices.EqualFunc(back, list, same) {
				t.Fatalf("Decode of Build(%d, %v) = %v, %v", every, list, back, e)
			}
		}
		b, _ := Build(3, list...)
		for _, key := range keys {
			for _, at := range moments {
				got, ok, e := Seek(b, key, at)
				if want, there := plainSeek(list, key, at); e != api.OK || ok != there || !same(got, want) {
					t.Fatalf("Seek(%v, %q, %d) = %v, %v, %v; want %v, %v", list, key, at, got, ok, e, want, there)
				}
			}
		}
	}
}

func TestSeekInAnyBlock(t *testing.T) { // P8.3: the restarts don't show
	list := []api.Entry{put("a", 9, "x"), gone("a", 3), put("ab", 300, "y"), put("b", 1, "z")}
	for _, every := range everies {
		b, _ := Build(every, list...)
		for i, x := range list {
			if got, ok, e := Seek(b, x.Key, x.Seq); e != api.OK || !ok || !same(got, x) {
				t.Errorf("every %d: Seek of %v = %v, %v, %v", every, x, got, ok, e)
			}
			if x.Seq == 0 {
				continue
			}
			got, ok, e := Seek(b, x.Key, x.Seq-1)
			if behind := i+1 < len(list); e != api.OK || ok != behind || behind && !same(got, list[i+1]) || !behind && !same(got, api.Entry{}) {
				t.Errorf("every %d: Seek behind %v = %v, %v, %v", every, x, got, ok, e)
			}
		}
	}
	b, _ := Build(4)
	if got, ok, e := Seek(b, nil, math.MaxUint64); e != api.OK || ok || !same(got, api.Entry{}) {
		t.Errorf("Seek in an empty block = %v, %v, %v", got, ok, e)
	}
}

// fitting makes entries of which Build(every ..) seals just so many bytes.
func fitting(t *testing.T, every, size int) []api.Entry {
	t.Helper()
	value := make([]byte, api.MaxValue)
	var list []api.Entry
	for i := range 15 {
		list = append(list, api.Entry{Key: []byte{byte(i)}, Seq: 1, Kind: api.Put, Value: value})
	}
	for i := range 2 {
		list = append(list, api.Entry{Key: []byte{15, byte(i)}, Seq: 1, Kind: api.Put, Value: value[:30000]})
	}
	last := len(list) - 1
	list[last].Value = value[:30000+size-len(plainBytes(every, list))]
	if got := len(plainBytes(every, list)); got != size {
		t.Fatalf("%d bytes, want %d", got, size)
	}
	return list
}

func TestBuildSize(t *testing.T) { // P8.1, P8.2
	for _, every := range []int{1, 4, 1000} {
		list := fitting(t, every, api.MaxRecord)
		b, e := Build(every, list...)
		if want, _ := plainBuild(every, list...); e != api.OK || !bytes.Equal(b, want) || len(b) != api.MaxRecord+8 {
			t.Errorf("every %d: Build of MaxRecord bytes: %d, %v", every, len(b), e)
		}
		if back, e := Decode(b); e != api.OK || !slices.EqualFunc(back, list, same) {
			t.Errorf("every %d: Decode of MaxRecord bytes: %d entries, %v", every, len(back), e)
		}
		if x, ok, e := Seek(b, []byte{15, 1}, 1); e != api.OK || !ok || !same(x, list[16]) {
			t.Errorf("every %d: Seek in MaxRecord bytes: %v, %v", every, ok, e)
		}
		for _, over := range []int{1, 2, 3, 4, 5, 4*17 + 4, 4*17 + 5} { // the restarts count, too
			if b, e := Build(every, fitting(t, every, api.MaxRecord+over)...); len(b) != 0 || e != api.ErrSize {
				t.Fatalf("every %d: Build of %d bytes too many: %d, %v", every, over, len(b), e)
			}
		}
	}
}

func TestBuildErrors(t *testing.T) { // P8.1: of several errors the least
	bad := api.Entry{Key: []byte("a"), Seq: 1}
	long := api.Entry{Key: make([]byte, api.MaxKey+1), Seq: 1, Kind: api.Put}
	much := api.Entry{Key: []byte("q"), Seq: 1, Kind: api.Put, Value: make([]byte, api.MaxValue+1)}
	full := fitting(t, 1, api.MaxRecord)
	over := fitting(t, 1, api.MaxRecord+1)
	turned := slices.Clone(over)
	slices.Reverse(turned)
	for i, c := range []struct {
		every int
		list  []api.Entry
		want  api.Errno
	}{
		{0, nil, api.ErrArg}, {-1, nil, api.ErrArg}, {math.MinInt, nil, api.ErrArg}, {0, []api.Entry{long}, api.ErrArg}, {0, []api.Entry{bad}, api.ErrArg}, {-7, over, api.ErrArg},
		{1, []api.Entry{long}, api.ErrSize}, {9, []api.Entry{much}, api.ErrSize}, {1, []api.Entry{bad, much}, api.ErrSize}, {1, []api.Entry{put("b", 1, ""), put("a", 1, ""), long}, api.ErrSize},
		{1, []api.Entry{bad}, api.ErrForm}, {1, []api.Entry{{Key: []byte("a"), Kind: 3}}, api.ErrForm}, {1, []api.Entry{{Kind: api.Delete, Value: []byte("x")}}, api.ErrForm},
		{2, []api.Entry{put("a", 1, ""), {Key: []byte("b"), Seq: 1, Kind: 255}}, api.ErrForm},
		{1, []api.Entry{put("a", 1, ""), put("a", 1, "")}, api.ErrForm}, {1, []api.Entry{put("a", 1, ""), gone("a", 1)}, api.ErrForm}, {1, []api.Entry{put("a", 1, ""), put("a", 2, "")}, api.ErrForm},
		{3, []api.Entry{put("ab", 1, ""), put("a", 2, "")}, api.ErrForm}, {3, []api.Entry{put("a", 1, ""), put("b", 1, ""), put("", 1, "")}, api.ErrForm},
		{3, []api.Entry{put("a", 1, ""), put("b", 1, ""), put("d", 1, ""), put("c", 1, ""), put("e", 1, "")}, api.ErrForm},
		{1, over, api.ErrSize}, {1, turned, api.ErrSize}, {1, append(slices.Clone(over), bad), api.ErrSize}, {1, append([]api.Entry{bad, bad}, over...), api.ErrSize},
		{1, append(slices.Clone(full), put("\xff", 1, "")), api.ErrSize},
		{1, slices.Repeat(full[:1], 1<<20), api.ErrSize}, // so much that it isn't laid out
	} {
		if b, e := Build(c.every, c.list...); len(b) != 0 || e != c.want {
			t.Errorf("Build, case %d: %d bytes, %v; want %v", i, len(b), e, c.want)
		}
	}
}

func TestDecodeErrors(t *testing.T) { // P8.2
	block, _ := Build(2, put("ab", 5, "x"), gone("abc", 7))
	spoilt := slices.Clone(block)
	spoilt[len(spoilt)-1] ^= 1
	refused(t, "of too great a length", []byte{255, 0, 0, 0, 0, 0, 0, 0}, api.ErrSize)
	refused(t, "of too great a length by one", append([]byte{0, 16, 0, 1, 0, 0, 0, 0}, make([]byte, api.MaxRecord+1)...), api.ErrSize)
	refused(t, "spoilt", spoilt, api.ErrSum)
	for cut := range block {
		refused(t, "cut", block[:cut], api.ErrEnd)
	}
	refused(t, "cut, the rest in spare room", block[:len(block)-1:len(block)], api.ErrEnd)
	refused(t, "with a byte behind", append(slices.Clone(block), 0), api.ErrForm)
	refused(t, "twice", slices.Concat(block, block), api.ErrForm)
	refused(t, "spoilt, with a byte behind", append(slices.Clone(spoilt), 0), api.ErrSum) // it isn't looked behind a record that doesn't open
}

// words are numbers of four bytes each.
func words(list ...uint32) []byte {
	var out []byte
	for _, n := range list {
		out = binary.BigEndian.AppendUint32(out, n)
	}
	return out
}

func TestDecodeForm(t *testing.T) { // P8.2: what is in it isn't what Build makes
	one := told(0, 1, 5, 1, 1, "a", "x")
	two := told(1, 1, 5, 1, 1, "b", "y") // ab
	whole := told(0, 2, 5, 1, 1, "ab", "y")
	for name, inside := range map[string][]byte{
		"nothing": nil, "three bytes": {0, 0, 0}, "five bytes": {0, 0, 0, 0, 0}, "a restart of nothing": words(0, 1), "too many restarts": words(0, 0, 3), "very many": words(math.MaxUint32), "very many more": words(0, 0, 1<<31), "as many as bytes": words(0, 4),
		"no restart": slices.Concat(one, words(0)), "two of one": slices.Concat(one, words(0, 0, 2)), "two of one, behind it": slices.Concat(one, words(0, 7, 2)), "one elsewhere": slices.Concat(one, words(1, 1)), "one at its end": slices.Concat(one, words(7, 1)),
		"a second elsewhere": slices.Concat(one, two, words(0, 6, 2)), "a second at its end": slices.Concat(one, two, words(0, 14, 2)), "a second that shares": slices.Concat(one, two, words(0, 7, 2)), "a first that isn't one": slices.Concat(one, whole, words(1, 7, 2)),
		"none that doesn't share": slices.Concat(one, whole, words(0, 1)), "the second alone": slices.Concat(one, whole, words(7, 1)), "in falling order": slices.Concat(one, whole, words(7, 0, 2)), "both at the second": slices.Concat(one, whole, words(7, 7, 2)),
		"a first that shares": slices.Concat(told(1, 1, 5, 1, 1, "b", "y"), words(0, 1)), "more shared than there is": slices.Concat(one, told(2, 1, 5, 1, 1, "b", "y"), words(0, 1)), "very much shared": slices.Concat(one, told(math.MaxUint64, 1, 5, 1, 1, "b", "y"), words(0, 1)), "shared, so that the sum turns over": slices.Concat(one, told(math.MaxUint64, 2, 5, 1, 1, "bb", "y"), words(0, 1)),
		"less shared than there is": slices.Concat(one, told(0, 2, 5, 1, 1, "ab", "y"), words(0, 1)),
		"too little key":            slices.Concat(told(0, 9, 5, 1, 0, "a", ""), words(0, 1)), "a very long key": slices.Concat(told(0, math.MaxUint64, 5, 1, 1, "a", "x"), words(0, 1)), "a key that turns round": slices.Concat(told(0, 1<<63, 5, 1, 1, "a", "x"), words(0, 1)),
		"too little value": slices.Concat(told(0, 1, 5, 1, 2, "a", "x"), words(0, 1)), "a very long value": slices.Concat(told(0, 1, 5, 1, math.MaxUint64, "a", "x"), words(0, 1)), "a value left over": slices.Concat(told(0, 1, 5, 1, 0, "a", "x"), words(0, 1)),
		"a number cut": slices.Concat([]byte{128}, words(0, 1)), "only a number": slices.Concat([]byte{0}, words(0, 1)), "no kind": slices.Concat([]byte{0, 0, 0}, words(0, 1)), "no size": slices.Concat([]byte{0, 0, 0, 1}, words(0, 1)),
		"a number longer than it needs": slices.Concat([]byte{128, 0, 1, 5, 1, 0, 97}, words(0, 1)), "a seq longer than it needs": slices.Concat([]byte{0, 1, 133, 0, 1, 0, 97}, words(0, 1)), "a seq too great": slices.Concat([]byte{0, 1, 255, 255, 255, 255, 255, 255, 255, 255, 255, 2, 1, 0, 97}, words(0, 1)),
		"kind 0": slices.Concat(told(0, 1, 5, 0, 0, "a", ""), words(0, 1)), "kind 3": slices.Concat(told(0, 1, 5, 3, 0, "a", ""), words(0, 1)), "a Delete with a value": slices.Concat(told(0, 1, 5, 2, 1, "a", "x"), words(0, 1)),
		"alike": slices.Concat(one, told(1, 0, 5, 1, 0, "", ""), words(0, 1)), "a greater seq behind": slices.Concat(one, told(1, 0, 6, 1, 0, "", ""), words(0, 1)), "a lesser key behind": slices.Concat(one, told(0, 0, 5, 1, 0, "", ""), words(0, 1)), "a lesser key at a restart": slices.Concat(whole, one, words(0, 8, 2)),
		"too long a key":            slices.Concat(told(0, api.MaxKey+1, 5, 1, 0, string(make([]byte, api.MaxKey+1)), ""), words(0, 1)),
		"a key that grows too long": slices.Concat(told(0, api.MaxKey, 5, 1, 0, string(make([]byte, api.MaxKey)), ""), told(api.MaxKey, 1, 5, 1, 0, "a", ""), words(0, 1)),
		"too long a value":          slices.Concat(told(0, 1, 5, 1, api.MaxValue+1, "a", string(make([]byte, api.MaxValue+1))), words(0, 1)),
		"a block in a block":        seal(words(0)),
		"restarts at other steps":   slices.Concat(one, whole, told(2, 1, 5, 1, 0, "c", ""), told(0, 1, 5, 1, 0, "b", ""), words(0, 7, 21, 3)),
		"a restart too few":         slices.Concat(one, whole, told(0, 1, 5, 1, 0, "b", ""), words(0, 7, 2)),
		"a last one elsewhere":      slices.Concat(one, whole, told(0, 1, 5, 1, 0, "b", ""), words(0, 7, 7, 3)),
	} {
		refused(t, name, seal(inside), api.ErrForm)
	}
	for name, inside := range map[string][]byte{"one": slices.Concat(one, words(0, 1)), "two": slices.Concat(one, two, words(0, 1)), "two restarts": slices.Concat(one, whole, words(0, 7, 2)), "three": slices.Concat(one, whole, told(0, 1, 5, 1, 0, "b", ""), words(0, 7, 15, 3))} {
		if got, e := Decode(seal(inside)); e != api.OK || len(got) == 0 { // the pieces above are right by themselves
			t.Errorf("%s: Decode = %v, %v", name, got, e)
		}
	}
}

func TestDecodeGrowingKeys(t *testing.T) { // P1, P8.2: few bytes that would tell keys ever longer
	var inside []byte
	for i := 0; len(inside) < api.MaxRecord-20; i++ {
		inside = append(inside, told(uint64(i), 1, 5, 1, 0, "a", "")...)
	}
	var before, behind runtime.MemStats
	runtime.ReadMemStats(&before)
	refused(t, "growing keys", seal(inside, words(0, 1)), api.ErrForm)
	runtime.ReadMemStats(&behind)
	if used := behind.TotalAlloc - before.TotalAlloc; used > 1<<28 {
		t.Errorf("%d bytes were taken", used)
	}
}

func TestManySmallEntries(t *testing.T) { // P8.1, P8.2: as many as there is room for
	var list []api.Entry
	key := bytes.Repeat([]byte{7}, 200)
	for n := range 100000 {
		list = append(list, api.Entry{Key: append(slices.Clone(key[:200-n%3]), byte(n>>16), byte(n>>8), byte(n)), Seq: 1, Kind: api.Delete})
	}
	slices.SortFunc(list, func(a, b api.Entry) int { return bytes.Compare(a.Key, b.Key) })
	b, e := Build(len(list), list...)
	if want, we := plainBuild(len(list), list...); e != we || e != api.OK || !bytes.Equal(b, want) {
		t.Fatalf("Build = %d bytes, %v; want %d, %v", len(b), e, len(want), we)
	}
	if back, e := Decode(b); e != api.OK || !slices.EqualFunc(back, list, same) {
		t.Errorf("Decode = %d entries, %v", len(back), e)
	}
}

// plainEntries are the entries told by what is sealed, read without care: it panics, if it can't be read.
func plainEntries(inside []byte) []api.Entry {
	count := int(binary.BigEndian.Uint32(inside[len(inside)-4:]))
	b := inside[: len(inside)-4-4*count : len(inside)]
	number := func() int {
		n, size := binary.Uvarint(b)
		b = b[size:]
		return int(n)
	}
	var list []api.Entry
	var ahead []byte
	for len(b) > 0 {
		shared, left := number(), number()
		x := api.Entry{Seq: uint64(number()), Kind: b[0]}
		b = b[1:]
		size := number()
		x.Key = slices.Concat(ahead[:shared], b[:left])
		x.Value = slices.Clone(b[left : left+size])
		b = b[left+size:]
		list = append(list, x)
		ahead = x.Key
	}
	return list
}

// plainDecode is Decode of what is sealed, by trying each every.
func plainDecode(inside []byte) (list []api.Entry, every int) {
	defer func() {
		if recover() != nil {
			list, every = nil, 0
		}
	}()
	list = plainEntries(inside)
	for every = 1; every <= len(list)+1; every++ {
		if b, e := plainBuild(every, list...); e == 0 && bytes.Equal(b, seal(inside)) {
			return list, every
		}
	}
	return nil, 0
}

// decodes looks whether Decode answers as plainDecode does, and Build undoes it.
func decodes(t *testing.T, inside []byte) bool {
	t.Helper()
	want, every := plainDecode(inside)
	got, e := Decode(seal(inside))
	if every == 0 && (e != api.ErrForm || len(got) != 0) || every > 0 && (e != api.OK || !slices.EqualFunc(got, want, same)) {
		t.Fatalf("Decode of the record of %v = %v, %v; want %v", inside, got, e, want)
	}
	if every == 0 {
		return false
	}
	if again, e := Build(every, got...); e != api.OK || !bytes.Equal(again, seal(inside)) {
		t.Fatalf("Build(%d) of what Decode answers = %v, %v; want the record of %v", every, again, e, inside)
	}
	return true
}

func TestDecodeOfAnything(t *testing.T) { // P8.2: of what was changed, and sealed anew
	list := []api.Entry{gone("", 200), put("a", 9, "x"), gone("a", 3), put("ab", 300, "\x00\x00"), put("abb", 1, ""), put("b", 0, "z")}
	fine, all := 0, 0
	for _, every := range []int{1, 2, 3, 4, 6} {
		inside := plainBytes(every, list)
		for i := range inside {
			for c := range 256 {
				spoilt := slices.Clone(inside)
				spoilt[i] = byte(c)
				all++
				if decodes(t, spoilt) {
					fine++
				}
			}
			for _, c := range []byte{0, 1, 2, 5, 97, 128, 255} {
				decodes(t, slices.Insert(slices.Clone(inside), i, c))
			}
			for j := i; j <= len(inside); j++ {
				decodes(t, slices.Delete(slices.Clone(inside), i, j))
				decodes(t, slices.Insert(slices.Clone(inside), i, inside[i:j]...))
			}
		}
	}
	if fine == 0 || fine == all {
		t.Errorf("%d of %d decoded", fine, all)
	}
}

func TestRandomBlocks(t *testing.T) { // P8.1 to P8.3
	r := rand.New(rand.NewPCG(8, 2))
	for range 300 {
		var list []api.Entry
		for range r.IntN(30) {
			x := api.Entry{Key: make([]byte, r.IntN(5)), Seq: r.Uint64() >> r.IntN(64), Kind: byte(1 + r.IntN(2))}
			for i := range x.Key {
				x.Key[i] = byte(r.IntN(3))
			}
			if x.Kind == api.Put {
				x.Value = bytes.Repeat([]byte{byte(r.Uint32())}, r.IntN(200))
			}
			list = append(list, x)
		}
		slices.SortFunc(list, func(a, b api.Entry) int {
			if c := bytes.Compare(a.Key, b.Key); c != 0 {
				return c
			}
			if a.Seq > b.Seq {
				return -1
			}
			return 1
		})
		list = slices.CompactFunc(list, func(a, b api.Entry) bool { return bytes.Equal(a.Key, b.Key) && a.Seq == b.Seq })
		every := 1 + r.IntN(8)
		inside := plainBytes(every, list)
		if b, e := Build(every, list...); e != api.OK || !bytes.Equal(b, seal(inside)) || !decodes(t, inside) {
			t.Fatalf("Build(%d, %v) = %v, %v", every, list, b, e)
		}
		for range 20 {
			key := []byte{byte(r.IntN(4)), byte(r.IntN(4)), byte(r.IntN(4)), byte(r.IntN(4))}[:r.IntN(5)]
			at := r.Uint64() >> r.IntN(64)
			got, ok, e := Seek(seal(inside), key, at)
			if want, there := plainSeek(list, key, at); e != api.OK || ok != there || !same(got, want) {
				t.Fatalf("Seek(%v, %v, %d) = %v, %v, %v; want %v, %v", list, key, at, got, ok, e, want, there)
			}
		}
	}
}

// flip changes b's bits from the bit at on, as pattern says; bits count from each byte's lowest one on.
func flip(b []byte, at int, pattern uint32) []byte {
	out := slices.Clone(b)
	for ; pattern != 0; pattern >>= 1 {
		if pattern&1 == 1 {
			out[at/8] ^= 1 << (at % 8)
		}
		at++
	}
	return out
}

func TestNearBits(t *testing.T) { // P8.4
	b, _ := Build(2, put("ab", 5, "x"), gone("abc", 7), put("b", 300, "y"))
	pattern := uint32(1)
	for at := 64; at < 8*len(b); at++ {
		for i := range 100 {
			switch {
			case i < 32:
				pattern = 1<<i | 1
			case i < 64:
				pattern = math.MaxUint32 >> (i - 32)
			default:
				pattern = pattern*1664525 + 1013904223 | 1
			}
			if at+bits.Len32(pattern) > 8*len(b) {
				continue
			}
			spoilt := flip(b, at, pattern)
			if list, e := Decode(spoilt); len(list) != 0 || e != api.ErrSum {
				t.Fatalf("the bits %x at %d: Decode = %v, %v", pattern, at, list, e)
			}
			if x, ok, e := Seek(spoilt, []byte("ab"), 9); !same(x, api.Entry{}) || ok || e != api.ErrSum {
				t.Fatalf("the bits %x at %d: Seek = %v, %v, %v", pattern, at, x, ok, e)
			}
		}
	}
}

// roomy is a copy of b with spare room that holds other bytes.
func roomy(b []byte) []byte {
	return append(slices.Clone(b), 0, 1, 2, 255)[:len(b)]
}

// fill writes over a list, its spare room too.
func fill(b []byte) {
	b = b[:cap(b)]
	for i := range b {
		b[i] = 77
	}
}

func TestMemoryOfBuild(t *testing.T) { // P8.5
	list := []api.Entry{put("ab", 5, "x"), gone("abc", 7), put("b", 1, "y")}
	for i := range list {
		list[i].Key, list[i].Value = roomy(list[i].Key), roomy(list[i].Value)
	}
	want, _ := plainBuild(2, list...)
	two, _ := plainBuild(2, list[:2]...)
	b, _ := Build(2, list...)
	again, _ := Build(2, list...)
	short, _ := Build(2, list[:2]...) // though there is one more in the list's spare room
	for i, key := range []string{"ab", "abc", "b"} {
		if !bytes.Equal(list[i].Key[:len(key)+4], []byte(key+"\x00\x01\x02\xff")) || !bytes.Equal(list[i].Value[:cap(list[i].Value)][len(list[i].Value):][:4], []byte{0, 1, 2, 255}) {
			t.Errorf("entry %d is changed: %v", i, list[i])
		}
		fill(list[i].Key)
		fill(list[i].Value)
	}
	fill(again)
	if !bytes.Equal(b, want) || !bytes.Equal(short, two) {
		t.Errorf("Build: the answer shares memory: %v, %v", b, short)
	}
}

func TestMemoryOfDecode(t *testing.T) { // P8.5
	want := []api.Entry{put("ab", 5, "xyz"), put("ab", 4, "xyz"), gone("abc", 7), put("abc", 1, ""), put("b", 1, "y")}
	block, _ := Build(3, want...)
	b, key := roomy(block), roomy([]byte("ab"))
	list, _ := Decode(b)
	again, _ := Decode(b)
	one, _, _ := Seek(b, key, 5)
	other, _, _ := Seek(b, key, 5)
	if !bytes.Equal(b[:len(b)+4], append(slices.Clone(block), 0, 1, 2, 255)) || !bytes.Equal(key[:6], []byte("ab\x00\x01\x02\xff")) {
		t.Errorf("Decode, Seek: what was handed in is changed")
	}
	for i := range list {
		fill(list[i].Key)
		if !bytes.Equal(list[i].Value, want[i].Value) {
			t.Errorf("Decode: a key shares memory with its value")
		}
		fill(list[i].Value)
		for j := i + 1; j < len(list); j++ {
			if !same(list[j], want[j]) {
				t.Errorf("Decode: the entries %d and %d share memory", i, j)
			}
		}
	}
	whole := list[:cap(list)]
	for i := range whole {
		whole[i] = api.Entry{}
	}
	fill(other.Key)
	if string(other.Value) != "xyz" {
		t.Errorf("Seek: key and value share memory")
	}
	fill(other.Value)
	if !bytes.Equal(b, block) || string(key) != "ab" {
		t.Errorf("Decode, Seek: an answer shares memory with what was handed in")
	}
	fill(b)
	fill(key)
	if !slices.EqualFunc(again, want, same) || !same(one, want[0]) {
		t.Errorf("Decode, Seek: answers share memory: %v, %v", again, one)
	}
}

// FuzzInside: Decode of whatever is sealed.
func FuzzInside(f *testing.F) { // P1, P8.2
	for _, list := range lists()[:30] {
		f.Add(plainBytes(1, list))
		f.Add(plainBytes(3, list))
	}
	f.Fuzz(func(t *testing.T, inside []byte) { decodes(t, inside[:min(len(inside), 1000)]) })
}

// FuzzAny: Build as plainBuild, of any entries; Decode and Seek of any bytes.
func FuzzAny(f *testing.F) { // P1, P8.1 to P8.3
	f.Add(2, []byte("ab"), uint64(5), byte(1), []byte("x"), []byte("abc"), uint64(7), byte(2), []byte(nil), []byte("ab"), uint64(9))
	f.Add(0, []byte("b"), uint64(5), byte(1), []byte("x"), []byte("a"), uint64(7), byte(1), []byte("y"), seal(words(0)), uint64(0))
	f.Fuzz(func(t *testing.T, every int, key []byte, seq uint64, kind byte, value []byte, key2 []byte, seq2 uint64, kind2 byte, value2 []byte, sought []byte, at uint64) {
		a, b := api.Entry{Key: key, Seq: seq, Kind: kind, Value: value}, api.Entry{Key: key2, Seq: seq2, Kind: kind2, Value: value2}
		for _, list := range [][]api.Entry{nil, {a}, {a, b}, {b, a}, {a, a}} {
			block, e := Build(every, list...)
			if want, we := plainBuild(every, list...); e != we || !bytes.Equal(block, want) {
				t.Fatalf("Build(%d, %v) = %v, %v; want %v, %v", every, list, block, e, want, we)
			}
			if e != api.OK {
				continue
			}
			if back, e := Decode(block); e != api.OK || !slices.EqualFunc(back, list, same) {
				t.Fatalf("Decode(%v) = %v, %v", block, back, e)
			}
			got, ok, e := Seek(block, sought, at)
			if want, there := plainSeek(list, sought, at); e != api.OK || ok != there || !same(got, want) {
				t.Fatalf("Seek(%v, %v, %d) = %v, %v, %v; want %v, %v", list, sought, at, got, ok, e, want, there)
			}
		}
		list, e := Decode(sought)
		if e != api.OK && len(list) != 0 {
			t.Fatalf("Decode(%v) = %v, %v", sought, list, e)
		}
		x, ok, se := Seek(sought, key, at)
		if want, there := plainSeek(list, key, at); se != e || ok != there || !same(x, want) {
			t.Fatalf("Seek(%v, %v, %d) = %v, %v, %v; want %v, %v, %v", sought, key, at, x, ok, se, want, there, e)
		}
	})
}
