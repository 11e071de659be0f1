package table

import (
	"bytes"
	"encoding/binary"
	"hash/crc32"
	"maps"
	"math"
	"math/bits"
	"math/rand/v2"
	"runtime"
	"slices"
	"strings"
	"testing"

	"caisson/api"
	"caisson/block"
	"caisson/bloom"
	"caisson/disk"
	"caisson/mem"
)

// put is a Put of a key.
func put(key string, seq uint64, value string) api.Entry {
	return api.Entry{Key: []byte(key), Seq: seq, Kind: api.Put, Value: []byte(value)}
}

// gone is a Delete of a key.
func gone(key string, seq uint64) api.Entry {
	return api.Entry{Key: []byte(key), Seq: seq, Kind: api.Delete}
}

// same: are these alike, an empty list and nil too?
func same(a, b api.Entry) bool {
	return bytes.Equal(a.Key, b.Key) && a.Seq == b.Seq && a.Kind == b.Kind && bytes.Equal(a.Value, b.Value)
}

// sameMeta: are these alike, an empty list and nil too?
func sameMeta(a, b Meta) bool {
	return bytes.Equal(a.First, b.First) && bytes.Equal(a.Last, b.Last) && a.Count == b.Count && a.Size == b.Size
}

// sealed is the record of some bytes.
func sealed(inside []byte) []byte {
	b := binary.BigEndian.AppendUint32(nil, uint32(len(inside)))
	b = binary.BigEndian.AppendUint32(b, crc32.ChecksumIEEE(slices.Concat(b, inside)))
	return append(b, inside...)
}

// frame are parts, each with its length ahead.
func frame(parts ...[]byte) []byte {
	var out []byte
	for _, p := range parts {
		out = append(binary.AppendUvarint(out, uint64(len(p))), p...)
	}
	return out
}

// blockOf is a block of entries.
func blockOf(every int, list ...api.Entry) []byte {
	b, _ := block.Build(every, list...)
	return b
}

// filterOf is the filter of the entries' keys.
func filterOf(list ...api.Entry) []byte {
	var keys [][]byte
	for _, x := range list {
		if len(keys) == 0 || !bytes.Equal(x.Key, keys[len(keys)-1]) {
			keys = append(keys, x.Key)
		}
	}
	b, _ := bloom.Build(10, keys...)
	return b
}

// plainInside is what is sealed in a file with these blocks.
func plainInside(groups [][]api.Entry) []byte {
	var blocks [][]byte
	for _, g := range groups {
		blocks = append(blocks, blockOf(4, g...))
	}
	return frame(frame(blocks...), filterOf(slices.Concat(groups...)...))
}

// plainCut are the entries of the blocks, by the words of the document.
func plainCut(size int, list []api.Entry) [][]api.Entry {
	var out [][]api.Entry
	for len(list) > 0 {
		n, sum := 0, 0
		for n < len(list) && sum < size {
			sum += len(list[n].Key) + len(list[n].Value)
			n++
		}
		out = append(out, list[:n])
		list = list[n:]
	}
	return out
}

// plainMeta is what is known of a table.
func plainMeta(list []api.Entry, size int) Meta {
	return Meta{First: list[0].Key, Last: list[len(list)-1].Key, Count: len(list), Size: size}
}

// right: may a table have these entries? Else the error.
func right(list []api.Entry) api.Errno {
	for _, x := range list {
		if len(x.Key) > 1024 || len(x.Value) > 65536 {
			return 2
		}
	}
	for i, x := range list {
		if x.Kind != 1 && x.Kind != 2 || x.Kind == 2 && len(x.Value) > 0 {
			return 3
		}
		if i > 0 && (string(list[i-1].Key) > string(x.Key) || string(list[i-1].Key) == string(x.Key) && list[i-1].Seq <= x.Seq) {
			return 3
		}
	}
	if len(list) == 0 {
		return 3
	}
	return 0
}

// plainBytes is Bytes, by the words of the document.
func plainBytes(size int, list ...api.Entry) ([]byte, Meta, api.Errno) {
	if size < 1 {
		return nil, Meta{}, 1
	}
	if e := right(list); e != 0 {
		return nil, Meta{}, e
	}
	b := plainInside(plainCut(size, list))
	if len(b) > 1<<20 {
		return nil, Meta{}, 2
	}
	return sealed(b), plainMeta(list, len(b)+8), 0
}

// files are all files of a disk, with their bytes.
func files(d *disk.Disk) map[string]string {
	out := map[string]string{}
	for _, name := range d.List("") {
		b, _ := d.Read(name)
		out[name] = string(b)
	}
	return out
}

// lies puts a file on a disk, and makes it safe.
func lies(d *disk.Disk, name string, b []byte) {
	d.Append(name, b)
	d.Sync(name)
}

// with is a disk with one file.
func with(name string, b []byte) *disk.Disk {
	d := disk.New(1 << 22)
	lies(d, name, b)
	return d
}

// chain are entries in order.
var chain = []api.Entry{gone("", math.MaxUint64), put("", 5, "v"), put("a", 9, "x"), gone("a", 3), put("a", 0, ""), put("ab", 300, "y"), gone("abc", 128), put("abd", 127, "\x00\x01"), put("b", 1, "z"), gone("b\x00", 1<<63), put("ba", 1<<63-1, "zz"), put("\xff", 2, ""), put("\xff\xff", 2, "end")}

// lists are some lists of entries in order.
func lists() [][]api.Entry {
	var out [][]api.Entry
	for from := range chain {
		for to := from + 1; to <= len(chain); to++ {
			out = append(out, chain[from:to])
		}
	}
	key := bytes.Repeat([]byte{7}, api.MaxKey)
	value := bytes.Repeat([]byte{9}, api.MaxValue)
	return append(out, []api.Entry{gone("", 0)}, []api.Entry{put("", 1, ""), put("", 0, "")}, []api.Entry{{Key: key[:500], Seq: 1, Kind: api.Delete}, {Key: key, Seq: 2, Kind: api.Put, Value: value}, {Key: key, Seq: 1, Kind: api.Put, Value: value}})
}

// sizes are some for blocks.
var sizes = []int{1, 2, 3, 4, 5, 6, 8, 11, 16, 30, 1000, 66560, math.MaxInt32, math.MaxInt}

// keys are some to ask for.
var keys = [][]byte{nil, {}, {0}, []byte("a"), []byte("a\x00"), []byte("aa"), []byte("ab"), []byte("abc"), []byte("abcd"), []byte("abd"), []byte("b"), []byte("b\x00"), []byte("ba"), []byte("c"), {255}, {255, 0}, {255, 255}, {255, 255, 0}, bytes.Repeat([]byte{7}, 500), bytes.Repeat([]byte{7}, 1024), bytes.Repeat([]byte{7}, 5000), bytes.Repeat([]byte{255}, 5000)}

// moments are some numbers to ask for.
var moments = []uint64{0, 1, 2, 3, 4, 5, 8, 9, 10, 126, 127, 128, 299, 300, 301, 1<<63 - 1, 1 << 63, math.MaxUint64 - 1, math.MaxUint64}

// agrees looks whether a table answers what a table in memory does.
func agrees(t *testing.T, x *Table, list []api.Entry) {
	t.Helper()
	m := mem.New()
	if e := m.Put(list...); e != api.OK {
		t.Fatalf("Put(%v) = %v", list, e)
	}
	for _, key := range keys {
		for _, at := range moments {
			got, ok := x.Get(key, at)
			if want, there := m.Get(key, at); ok != there || !same(got, want) {
				t.Fatalf("Get(%q, %d) = %v, %v; want %v, %v", key, at, got, ok, want, there)
			}
		}
		for _, to := range keys {
			if got, want := x.Range(key, to), m.Range(key, to); !slices.EqualFunc(got, want, same) {
				t.Fatalf("Range(%q, %q) = %v; want %v", key, to, got, want)
			}
			overlaps := len(list) > 0 && (len(to) == 0 || string(list[0].Key) < string(to)) && string(list[len(list)-1].Key) >= string(key)
			if got := x.Overlaps(key, to); got != overlaps {
				t.Fatalf("Overlaps(%q, %q) of %v = %v", key, to, list, got)
			}
		}
	}
}

// opens looks whether a file is opened as the table of these entries.
func opens(t *testing.T, d *disk.Disk, name string, list []api.Entry) *Table {
	t.Helper()
	b, _ := d.Read(name)
	x, e := Open(d, name)
	if e != api.OK || x == nil || !sameMeta(x.Meta, plainMeta(list, len(b))) || !slices.EqualFunc(x.Range(nil, nil), list, same) {
		t.Fatalf("Open(%q) = %v, %v; want %v", name, x, e, list)
	}
	return x
}

// refused looks whether a file is refused with this error.
func refused(t *testing.T, what string, d *disk.Disk, name string, want api.Errno) {
	t.Helper()
	was := files(d)
	if x, e := Open(d, name); x != nil || e != want {
		t.Errorf("%s: Open = %v, %v; want the error %v", what, x, e, want)
	}
	if !maps.Equal(files(d), was) {
		t.Errorf("%s: Open has changed the disk", what)
	}
}

func TestExamples(t *testing.T) { // P10.1, P10.2, P10.4
	list := []api.Entry{gone("", 2), put("", 1, ""), put("a", 3, ""), put("b", 3, "x"), gone("c", 1)}
	want := sealed(frame(frame(blockOf(4, list[:3]...), blockOf(4, list[3]), blockOf(4, list[4])), filterOf(list...)))
	if b, m, e := Bytes(1, list...); e != api.OK || !bytes.Equal(b, want) || !sameMeta(m, plainMeta(list, len(want))) {
		t.Errorf("Bytes(1) = %v, %v, %v; want %v", b, m, e, want)
	}
	if b, m, e := Bytes(0, list...); len(b) != 0 || !sameMeta(m, Meta{}) || e != api.ErrArg {
		t.Errorf("Bytes(0) = %v, %v, %v", b, m, e)
	}
	if b, m, e := Bytes(1); len(b) != 0 || !sameMeta(m, Meta{}) || e != api.ErrForm {
		t.Errorf("Bytes of none = %v, %v, %v", b, m, e)
	}
	d := disk.New(1000)
	if m, e := Write(d, "t", 64, list...); e != api.OK || !sameMeta(m, plainMeta(list, d.Used())) {
		t.Errorf("Write = %v, %v", m, e)
	}
	if m, e := Write(d, "t", 64, list...); !sameMeta(m, Meta{}) || e != api.ErrThere {
		t.Errorf("Write once more = %v, %v", m, e)
	}
	refused(t, "what isn't there", d, "x", api.ErrNone)
	d.Append("empty", nil)
	refused(t, "an empty file", d, "empty", api.ErrEnd)
}

func TestBytesByHand(t *testing.T) { // P10.1
	list := []api.Entry{put("a", 5, "x"), gone("ab", 7), put("b", 300, "yz")}
	one := sealed([]byte{0, 1, 5, 1, 1, 97, 120, 1, 1, 7, 2, 0, 98, 0, 0, 0, 0, 0, 0, 0, 1}) // the first two, together 4 bytes
	two := sealed([]byte{0, 1, 172, 2, 1, 2, 98, 121, 122, 0, 0, 0, 0, 0, 0, 0, 1})
	filter := []byte{1, 48, 0, 2, 64, 0, 8, 0, 6} // of a alone
	for _, key := range [][]byte{[]byte("ab"), []byte("b")} {
		h := bloom.Hash(key)
		for i := range uint64(6) {
			bit := (h&math.MaxUint32 + i*(h>>32|1)) % 64
			filter[bit/8] |= 1 << (bit % 8)
		}
	}
	inside := slices.Concat([]byte{56, 29}, one, []byte{25}, two, []byte{9}, filter)
	for _, size := range []int{3, 4} {
		if b, m, e := Bytes(size, list...); e != api.OK || !bytes.Equal(b, sealed(inside)) || !sameMeta(m, Meta{First: []byte("a"), Last: []byte("b"), Count: 3, Size: 75}) {
			t.Errorf("Bytes(%d) = %v, %v, %v; want %v", size, b, m, e, sealed(inside))
		}
	}
	for size, want := range map[int]int{1: 3, 2: 3, 3: 2, 4: 2, 5: 1, 7: 1, 8: 1} {
		b, _, e := Bytes(size, list...)
		if e != api.OK || !bytes.Equal(b, sealed(plainInside(plainCut(size, list)))) || len(plainCut(size, list)) != want {
			t.Errorf("Bytes(%d) hasn't %d blocks: %v, %v", size, want, b, e)
		}
	}
}

func TestWriteAndOpen(t *testing.T) { // P10.1, P10.2, P10.5
	for i, list := range lists() {
		for j, size := range sizes {
			b, m, e := Bytes(size, list...)
			want, meta, we := plainBytes(size, list...)
			if e != we || e != api.OK || !bytes.Equal(b, want) || !sameMeta(m, meta) {
				t.Fatalf("Bytes(%d, %v) = %v, %v, %v; want %v, %v, %v", size, list, b, m, e, want, meta, we)
			}
			d := disk.New(len(want))
			if m, e = Write(d, "t", size, list...); e != api.OK || !sameMeta(m, meta) {
				t.Fatalf("Write(%d, %v) = %v, %v", size, list, m, e)
			}
			d.Crash() // it is safe
			if all := files(d); len(all) != 1 || all["t"] != string(want) {
				t.Fatalf("Write(%d, %v): the disk has %q", size, list, all)
			}
			x := opens(t, d, "t", list)
			if i%3 == 0 && j%3 == 0 {
				agrees(t, x, list)
			}
		}
	}
}

func TestGetAndRange(t *testing.T) { // P10.2, P10.5: where blocks end doesn't show
	for size := 1; size < 25; size++ {
		d := disk.New(10000)
		Write(d, "t", size, chain...)
		agrees(t, opens(t, d, "t", chain), chain)
	}
	for _, list := range lists()[len(lists())-3:] {
		d := disk.New(1 << 20)
		Write(d, "t", 1000, list...)
		agrees(t, opens(t, d, "t", list), list)
	}
}

func TestZeroTable(t *testing.T) { // P10.2, P10.5
	agrees(t, &Table{}, nil)
	var x Table
	if !sameMeta(x.Meta, Meta{}) || x.Count != 0 {
		t.Errorf("the zero Table: %v", x)
	}
}

func TestOverlaps(t *testing.T) { // P10.5
	d := disk.New(10000)
	Write(d, "cm", 5, put("c", 1, ""), put("m", 1, ""))
	Write(d, "none", 5, put("", 1, ""))
	Write(d, "one", 5, put("c", 2, ""), gone("c", 1))
	for _, c := range []struct {
		name, from, to string
		want           bool
	}{
		{"cm", "", "", true}, {"cm", "", "c", false}, {"cm", "", "c\x00", true}, {"cm", "a", "b", false}, {"cm", "a", "d", true}, {"cm", "c", "d", true}, {"cm", "c", "c", false},
		{"cm", "d", "e", true}, // as far as First and Last tell
		{"cm", "m", "", true}, {"cm", "m", "n", true}, {"cm", "m\x00", "", false}, {"cm", "n", "z", false}, {"cm", "m", "c\x00", true}, {"cm", "z", "c", false},
		{"none", "", "", true}, {"none", "", "\x00", true}, {"none", "\x00", "", false}, {"one", "c", "", true}, {"one", "c", "c\x00", true}, {"one", "", "c", false}, {"one", "c\x00", "", false},
	} {
		x, e := Open(d, c.name)
		if e != api.OK || x.Overlaps([]byte(c.from), []byte(c.to)) != c.want {
			t.Errorf("Overlaps(%q, %q) of %s isn't %v", c.from, c.to, c.name, c.want)
		}
	}
	if new(Table).Overlaps(nil, nil) || new(Table).Overlaps([]byte{}, []byte("a")) {
		t.Errorf("the zero Table overlaps")
	}
}

// fitting makes entries of which a file seals MaxRecord bytes, and so many more.
func fitting(t *testing.T, size, more int) []api.Entry {
	t.Helper()
	value := make([]byte, api.MaxValue)
	var list []api.Entry
	for i := range 17 {
		list = append(list, api.Entry{Key: []byte{byte(i)}, Seq: 1, Kind: api.Put, Value: value[:61500]})
	}
	last := &list[len(list)-1]
	last.Value = value[:61500+api.MaxRecord-len(plainInside(plainCut(size, list)))]
	if got := len(plainInside(plainCut(size, list))); got != api.MaxRecord {
		t.Fatalf("%d bytes, want %d", got, api.MaxRecord)
	}
	last.Value = value[:len(last.Value)+more]
	return list
}

func TestBytesSize(t *testing.T) { // P10.1, P10.2
	for _, size := range []int{1, 100000, math.MaxInt} {
		list := fitting(t, size, 0)
		b, m, e := Bytes(size, list...)
		if want, meta, _ := plainBytes(size, list...); e != api.OK || !bytes.Equal(b, want) || !sameMeta(m, meta) || len(b) != api.MaxRecord+8 {
			t.Errorf("Bytes(%d) of MaxRecord bytes: %d, %v, %v", size, len(b), m, e)
		}
		d := disk.New(1 << 21)
		if _, e := Write(d, "t", size, list...); e != api.OK {
			t.Errorf("Write(%d) of MaxRecord bytes: %v", size, e)
		}
		opens(t, d, "t", list)
		for _, over := range []int{1, 2, 20, 30, 40, 100, 1000} {
			list := fitting(t, size, over)
			if b, m, e := Bytes(size, list...); len(b) != 0 || !sameMeta(m, Meta{}) || e != api.ErrSize {
				t.Errorf("Bytes(%d) of %d bytes too many: %d, %v, %v", size, over, len(b), m, e)
			}
			if m, e := Write(d, "more", size, list...); !sameMeta(m, Meta{}) || e != api.ErrSize || len(d.List("")) != 1 {
				t.Errorf("Write(%d) of %d bytes too many: %v, %v", size, over, m, e)
			}
		}
	}
}

func TestManyKeys(t *testing.T) { // P10.1, P10.2: the filter takes much of the file
	var list []api.Entry
	for i := range 60000 {
		list = append(list, api.Entry{Key: binary.BigEndian.AppendUint32(nil, uint32(i)), Seq: 1, Kind: api.Delete})
	}
	for _, size := range []int{60, 4096, math.MaxInt} {
		b, m, e := Bytes(size, list...)
		if want, meta, we := plainBytes(size, list...); e != we || e != api.OK || !bytes.Equal(b, want) || !sameMeta(m, meta) {
			t.Fatalf("Bytes(%d) = %d bytes, %v, %v; want %d, %v", size, len(b), m, e, len(want), we)
		}
		x := opens(t, with("t", b), "t", list)
		if got, ok := x.Get([]byte{0, 0, 200, 100}, 1); !ok || !same(got, list[200*256+100]) {
			t.Errorf("Get = %v, %v", got, ok)
		}
	}
	if b, _, e := Bytes(1, list...); len(b) != 0 || e != api.ErrSize { // each in a block of its own
		t.Errorf("Bytes(1) = %d bytes, %v", len(b), e)
	}
	if b, _, e := Bytes(1, append(list, gone("", 1))...); len(b) != 0 || e != api.ErrForm { // ErrForm comes first
		t.Errorf("Bytes out of order = %d bytes, %v", len(b), e)
	}
}

func TestBytesOfVeryMuch(t *testing.T) { // P1, P10.1: what is known to be too much isn't laid out
	key, list := bytes.Repeat([]byte{7}, api.MaxKey), []api.Entry(nil)
	for i := range 1 << 18 {
		list = append(list, api.Entry{Key: key, Seq: uint64(1<<18 - i), Kind: api.Delete})
	}
	for _, size := range []int{1, 10000, math.MaxInt} {
		var before, behind runtime.MemStats
		runtime.ReadMemStats(&before)
		b, m, e := Bytes(size, list...)
		runtime.ReadMemStats(&behind)
		if len(b) != 0 || !sameMeta(m, Meta{}) || e != api.ErrSize {
			t.Errorf("Bytes(%d) = %d bytes, %v, %v", size, len(b), m, e)
		}
		if used := behind.TotalAlloc - before.TotalAlloc; used > 1<<27 {
			t.Errorf("Bytes(%d): %d bytes were taken", size, used)
		}
	}
}

// wrong are lists that no table has, with the errors.
func wrong(t *testing.T) map[string]struct {
	list []api.Entry
	want api.Errno
} {
	bad := api.Entry{Key: []byte("a"), Seq: 1}
	long := api.Entry{Key: make([]byte, api.MaxKey+1), Seq: 1, Kind: api.Put}
	much := api.Entry{Key: []byte("q"), Seq: 1, Kind: api.Put, Value: make([]byte, api.MaxValue+1)}
	over := fitting(t, 1, 1000) // in one block, too
	turned := slices.Clone(over)
	slices.Reverse(turned)
	return map[string]struct {
		list []api.Entry
		want api.Errno
	}{
		"none": {nil, api.ErrForm}, "a long key": {[]api.Entry{long}, api.ErrSize}, "a long value": {[]api.Entry{much}, api.ErrSize}, "a long key behind a bad one": {[]api.Entry{bad, long}, api.ErrSize}, "a long value, out of order": {[]api.Entry{put("r", 1, ""), much}, api.ErrSize},
		"kind 0": {[]api.Entry{bad}, api.ErrForm}, "kind 3": {[]api.Entry{{Kind: 3}}, api.ErrForm}, "kind 255": {[]api.Entry{put("a", 1, ""), {Key: []byte("b"), Kind: 255}}, api.ErrForm}, "a Delete with a value": {[]api.Entry{{Kind: api.Delete, Value: []byte("x")}}, api.ErrForm},
		"twice": {[]api.Entry{put("a", 1, ""), put("a", 1, "")}, api.ErrForm}, "put and gone": {[]api.Entry{put("a", 1, ""), gone("a", 1)}, api.ErrForm}, "rising": {[]api.Entry{put("a", 1, ""), put("a", 2, "")}, api.ErrForm}, "falling keys": {[]api.Entry{put("b", 1, ""), put("a", 1, "")}, api.ErrForm},
		"a longer key ahead": {[]api.Entry{put("ab", 1, ""), put("a", 1, "")}, api.ErrForm}, "at the end": {append(slices.Clone(chain), put("c", 1, "")), api.ErrForm}, "at the beginning": {append([]api.Entry{put("a", 1, "")}, chain...), api.ErrForm},
		"too much": {over, api.ErrSize}, "too much, turned": {turned, api.ErrForm}, "too much, with a bad one": {append(slices.Clone(over), api.Entry{Key: []byte{99}}), api.ErrForm}, "too much, with a long one": {append(slices.Clone(turned), long), api.ErrSize},
	}
}

func TestBytesErrors(t *testing.T) { // P10.1
	for name, c := range wrong(t) {
		for _, size := range []int{1, 4, 1000, math.MaxInt} {
			if b, m, e := Bytes(size, c.list...); len(b) != 0 || !sameMeta(m, Meta{}) || e != c.want {
				t.Errorf("%s: Bytes(%d) = %d bytes, %v, %v; want %v", name, size, len(b), m, e, c.want)
			}
		}
		for _, size := range []int{0, -1, math.MinInt} {
			if b, m, e := Bytes(size, c.list...); len(b) != 0 || !sameMeta(m, Meta{}) || e != api.ErrArg {
				t.Errorf("%s: Bytes(%d) = %d bytes, %v, %v", name, size, len(b), m, e)
			}
		}
	}
}

// notWritten looks whether Write answers this error and leaves the disk as it was.
func notWritten(t *testing.T, what string, d *disk.Disk, name string, size int, list []api.Entry, want api.Errno) {
	t.Helper()
	was, dead := files(d), d.Dead()
	if m, e := Write(d, name, size, list...); e != want || !sameMeta(m, Meta{}) {
		t.Errorf("%s: Write = %v, %v; want %v", what, m, e, want)
	}
	if !maps.Equal(files(d), was) || d.Dead() != dead {
		t.Errorf("%s: Write has changed the disk: %q; it was %q", what, files(d), was)
	}
}

// killed is a disk that is dead.
func killed(d *disk.Disk) *disk.Disk {
	d = d.Twin()
	d.Arm(0)
	d.Append("x", nil)
	return d
}

func TestWriteErrors(t *testing.T) { // P10.2
	list := chain[2:5]
	whole, _, _ := Bytes(4, list...)
	empty := disk.New(1 << 22)
	there := with("t", []byte("any"))
	full := disk.New(len(whole) - 1)
	thereAndFull := disk.New(3)
	lies(thereAndFull, "t", []byte("any"))
	notWritten(t, "of a dead disk", killed(empty), "t", 4, list, api.ErrDead)
	notWritten(t, "of a dead disk that has the name", killed(there), "t", 4, list, api.ErrDead)
	notWritten(t, "there", there, "t", 4, list, api.ErrThere)
	notWritten(t, "there, and no room", thereAndFull, "t", 4, list, api.ErrThere)
	notWritten(t, "no room", full, "t", 4, list, api.ErrFull)
	notWritten(t, "no room at all", &disk.Disk{}, "", 4, list, api.ErrFull)
	for name, c := range wrong(t) {
		for _, d := range []*disk.Disk{empty, there, full, killed(empty), killed(there)} {
			notWritten(t, name, d, "t", 4, c.list, c.want)
			notWritten(t, name, d, "t", 0, c.list, api.ErrArg)
			notWritten(t, name, d, "t", math.MinInt, c.list, api.ErrArg)
		}
	}
	there.Append("e", nil)
	notWritten(t, "an empty file is there", there, "e", 4, list, api.ErrThere)
	there.Arm(0)
	notWritten(t, "there, on an armed disk", there, "t", 4, list, api.ErrThere)
	full.Arm(0)
	notWritten(t, "no room, on an armed disk", full, "t", 4, list, api.ErrFull)
	if m, e := Write(there, "new", 4, list...); e != api.ErrDead || !sameMeta(m, Meta{}) || !there.Dead() {
		t.Errorf("Write on an armed disk = %v, %v", m, e)
	}
}

func TestWriteNames(t *testing.T) { // P1, P10.2: any names, beside one another
	d := disk.New(1 << 22)
	names := []string{"", "t", "t.old", "T", "a/b", "\xff\x00", ".", "tt", strings.Repeat("n", 3000)}
	for i, name := range names {
		if _, e := Write(d, name, 3, chain[i:i+3]...); e != api.OK {
			t.Errorf("Write under %q = %v", name, e)
		}
	}
	for i, name := range names {
		opens(t, d, name, chain[i:i+3])
	}
	if len(d.List("")) != len(names) {
		t.Errorf("the disk has %q", d.List(""))
	}
	if _, e := Write(d, "t.new", 3, chain[0:3]...); e != api.OK { // t is there already, and needs that name no more
		t.Errorf("Write under t.new = %v", e)
	}
	opens(t, d, "t.new", chain[0:3])
	opens(t, d, "t", chain[1:4])
}

func TestWriteOverWhatWasLeft(t *testing.T) { // P10.2: a file that has the name and ".new" is removed ahead
	want, _, _ := Bytes(4, chain...)
	for _, left := range []string{"", "x", string(want), string(want[:20]), string(want) + "more"} {
		d := disk.New(max(len(want), len(left))) // room for one of them alone
		d.Append("t.new", []byte(left))
		if _, e := Write(d, "t", 4, chain...); e != api.OK {
			t.Errorf("Write over %q = %v", left, e)
		}
		if all := files(d); len(all) != 1 || all["t"] != string(want) {
			t.Errorf("Write over %q: the disk has %q", left, all)
		}
	}
	d := disk.New(len(want) - 1)
	lies(d, "t.new", []byte("x"))
	if m, e := Write(d, "t", 4, chain...); e != api.ErrFull || !sameMeta(m, Meta{}) || len(d.List("")) != 0 {
		t.Errorf("Write without room = %v, %v; the disk has %q", m, e, files(d))
	}
}

func TestDeaths(t *testing.T) { // P10.3
	list := chain[2:9]
	want, _, _ := Bytes(4, list...)
	for _, left := range []string{"none", "", "x", "long enough to have a tail", string(want)} {
		done := false
		for arm := 0; !done; arm++ {
			for _, keeps := range [][]int{nil, {1}, {7}, {len(want) - 1}, {len(want)}, {len(want) + 1}, {3, 5}} {
				d := with("other", []byte("stays"))
				lies(d, "t.old", []byte("stays too"))
				if left != "none" {
					d.Append("t.new", []byte(left))
				}
				d.Arm(arm)
				m, e := Write(d, "t", 4, list...)
				if e != api.OK && (e != api.ErrDead || !sameMeta(m, Meta{}) || !d.Dead()) {
					t.Fatalf("dead behind %d: Write = %v, %v", arm, m, e)
				}
				d.Crash(keeps...)
				all := files(d)
				if all["other"] != "stays" || all["t.old"] != "stays too" {
					t.Fatalf("dead behind %d: the disk has %q", arm, all)
				}
				if e == api.OK {
					done = true
					if len(all) != 3 {
						t.Fatalf("dead behind %d, written: the disk has %q", arm, all)
					}
					opens(t, d, "t", list)
					continue
				}
				refused(t, "dead", d, "t", api.ErrNone) // who dies has renamed nothing
				if delete(all, "t.new"); len(all) != 2 {
					t.Fatalf("dead behind %d: the disk has %q", arm, all)
				}
				if _, e := Write(d, "t", 4, list...); e != api.OK {
					t.Fatalf("dead behind %d: the next Write = %v", arm, e)
				}
				opens(t, d, "t", list)
				if len(d.List("")) != 3 {
					t.Fatalf("dead behind %d, written again: the disk has %q", arm, files(d))
				}
			}
			if arm > 10 {
				t.Fatalf("Write takes no end")
			}
		}
	}
}

func TestOpenErrors(t *testing.T) { // P10.4
	whole, _, _ := Bytes(4, chain...)
	refused(t, "a dead disk", killed(with("t", whole)), "t", api.ErrDead)
	refused(t, "a dead disk without it", killed(disk.New(0)), "t", api.ErrDead)
	refused(t, "another name", with("t", whole), "t2", api.ErrNone)
	refused(t, "a beginning of the name", with("t2", whole), "t", api.ErrNone)
	refused(t, "too great a length", with("t", []byte{255, 0, 0, 0, 0, 0, 0, 0}), "t", api.ErrSize)
	refused(t, "too great a length by one", with("t", append([]byte{0, 16, 0, 1, 0, 0, 0, 0}, make([]byte, api.MaxRecord+1)...)), "t", api.ErrSize)
	refused(t, "noughts", with("t", make([]byte, 8)), "t", api.ErrSum)
	for size := range whole {
		refused(t, "cut", with("t", whole[:size]), "t", api.ErrEnd)
	}
	refused(t, "a byte behind", with("t", append(slices.Clone(whole), 0)), "t", api.ErrForm)
	refused(t, "twice", with("t", slices.Concat(whole, whole)), "t", api.ErrForm)
	spoilt := slices.Clone(whole)
	spoilt[len(spoilt)-1] ^= 1
	refused(t, "spoilt", with("t", spoilt), "t", api.ErrSum)
	refused(t, "spoilt, a byte behind", with("t", append(spoilt, 0)), "t", api.ErrSum) // it isn't looked behind a record that doesn't open
}

func TestSpoiltBits(t *testing.T) { // P10.4
	list := chain[2:7]
	whole, _, _ := Bytes(4, list...)
	d := with("t", whole)
	for i := range whole {
		for bit := range 8 {
			spoilt := slices.Clone(whole)
			spoilt[i] ^= 1 << bit
			d.Cut("t", 0)
			d.Append("t", spoilt)
			x, e := Open(d, "t")
			if x != nil || e != api.ErrSum && (i >= 4 || e != api.ErrSize && e != api.ErrEnd) { // only the length's bytes may tell something else
				t.Fatalf("bit %d of the byte %d turned: %v, %v", bit, i, x, e)
			}
		}
	}
}

func TestOpenForm(t *testing.T) { // P10.4: what is sealed isn't what Bytes makes
	list := []api.Entry{put("a", 9, "x"), gone("a", 3), put("ab", 300, "y"), gone("abc", 128), put("abd", 127, "w"), put("b", 1, "z")}
	f := filterOf(list...)
	one, two := blockOf(4, list[:2]...), blockOf(4, list[2:]...)
	other, _ := bloom.Build(12, []byte("a"), []byte("ab"), []byte("abc"), []byte("abd"), []byte("b"))
	twice, _ := bloom.Build(10, []byte("a"), []byte("a"), []byte("ab"), []byte("abc"), []byte("abd"), []byte("b"), []byte("b"))
	longer, _ := bloom.Build(10, []byte("a"), []byte("ab"), []byte("abc"), []byte("abd"), []byte("b"), []byte("zzz"))
	more, less, spoilt := slices.Clone(f), slices.Clone(f), slices.Clone(two)
	free := slices.IndexFunc(f, func(c byte) bool { return c != 255 })
	set := slices.IndexFunc(f, func(c byte) bool { return c != 0 })
	more[free] |= more[free] + 1 // one more bit
	less[set] &= less[set] - 1   // one less
	spoilt[len(spoilt)-1] ^= 1
	for i, x := range [][]byte{other, twice, longer, more, less} {
		if bytes.Equal(x, f) {
			t.Fatalf("the filter %d is the right one: %v", i, f)
		}
	}
	body := blockOf(4, list...)[8:] // what is sealed in it
	for name, inside := range map[string][]byte{
		"nothing": nil, "one part": frame(frame(one, two)), "three parts": frame(frame(one, two), f, nil), "an empty part behind": append(frame(frame(one, two), f), 0), "turned parts": frame(f, frame(one, two)), "two empty ones": {0, 0}, "a part cut": {9, 1}, "a number cut": {128}, "a long number": {128, 0, 0}, "a filter alone": frame(nil, f),
		"no blocks, their filter": frame(nil, filterOf()), "an empty block": frame(frame(blockOf(4)), filterOf()), "an empty one ahead": frame(frame(blockOf(4), one, two), f), "an empty one between": frame(frame(one, blockOf(4), two), f), "an empty one behind": frame(frame(one, two, blockOf(4)), f),
		"no bytes as a block": frame(frame(one, nil, two), f), "a block cut": frame(frame(one, two[:len(two)-1]), f), "a block spoilt": frame(frame(one, spoilt), f), "a block with more behind": frame(frame(one, append(slices.Clone(two), 0)), f), "two blocks in one part": frame(frame(append(slices.Clone(one), two...)), f), "blocks that aren't framed": frame(one, f), "blocks, one cut in the frame": frame(append(frame(one), 99, 1), f),
		"other restarts": frame(frame(blockOf(3, list...)), f), "restarts at each": frame(frame(one, blockOf(1, list[2:]...)), f), "too few restarts": frame(frame(blockOf(5, list...)), f), "not sealed": frame(frame(body), f),
		"turned blocks": frame(frame(two, one), f), "a block twice": frame(frame(one, one, two), f), "an entry twice": frame(frame(blockOf(4, list[:3]...), blockOf(4, list[2:]...)), f), "alike but for the kind": frame(frame(one, blockOf(4, append([]api.Entry{put("a", 3, "")}, list[2:]...)...)), f), "a newer one behind": frame(frame(one, blockOf(4, append([]api.Entry{put("a", 4, "")}, list[2:]...)...)), f),
		"no filter": frame(frame(one, two), nil), "another filter": frame(frame(one, two), other), "one more bit": frame(frame(one, two), more), "one bit less": frame(frame(one, two), less), "one more key": frame(frame(one, two), longer), "keys twice in the filter": frame(frame(one, two), twice), "other hashes": frame(frame(one, two), append(slices.Clone(f[:len(f)-1]), 7)), "the filter of none": frame(frame(one, two), filterOf()),
		"the filter cut": frame(frame(one, two), f[1:]), "the filter twice": frame(frame(one, two), append(slices.Clone(f), f...)), "the first block's filter": frame(frame(one, two), filterOf(list[:2]...)), "a table in a table": sealed(frame(frame(one, two), f)),
	} {
		refused(t, name, with("t", sealed(inside)), "t", api.ErrForm)
		if decodes(t, inside) {
			t.Errorf("%s: the plain reading opens it", name)
		}
	}
	opens(t, with("t", sealed(frame(frame(one, two), f))), "t", list) // the pieces above are right by themselves
}

func TestAnyBlockEnds(t *testing.T) { // P10.4: also such as no size makes
	list := chain[1:9]
	ends := 0
	for mask := range 1 << (len(list) - 1) {
		groups, begin := [][]api.Entry(nil), 0
		for i := range list {
			if i == len(list)-1 || mask>>i&1 == 1 {
				groups = append(groups, list[begin:i+1])
				begin = i + 1
			}
		}
		inside := plainInside(groups)
		x := opens(t, with("t", sealed(inside)), "t", list)
		if !decodes(t, inside) {
			t.Fatalf("the plain reading doesn't open %v", groups)
		}
		if mask%16 == 5 {
			agrees(t, x, list)
			ends += bits.OnesCount(uint(mask))
		}
	}
	if ends == 0 {
		t.Errorf("nothing was asked")
	}
}

// plainOpen are the entries of a file by what is sealed in it, read without care.
func plainOpen(inside []byte) (list []api.Entry) {
	defer func() {
		if recover() != nil {
			list = nil
		}
	}()
	part := func(b []byte) ([]byte, []byte) {
		n, size := binary.Uvarint(b)
		return b[size:][:n:n], b[size:][n:]
	}
	blocks, _ := part(inside)
	var groups [][]api.Entry
	for len(blocks) > 0 {
		var b []byte
		b, blocks = part(blocks)
		g, e := block.Decode(b)
		if e != api.OK || len(g) == 0 {
			return nil
		}
		groups = append(groups, g)
	}
	list = slices.Concat(groups...)
	if right(list) != 0 || !bytes.Equal(plainInside(groups), inside) {
		return nil
	}
	return list
}

// decodes looks whether Open answers of what is sealed as plainOpen does; does it open?
func decodes(t *testing.T, inside []byte) bool {
	t.Helper()
	want := plainOpen(inside)
	x, e := Open(with("t", sealed(inside)), "t")
	if want == nil {
		if x != nil || e != api.ErrForm {
			t.Fatalf("Open of the record of %v = %v, %v", inside, x, e)
		}
		return false
	}
	if e != api.OK || !slices.EqualFunc(x.Range(nil, nil), want, same) || !sameMeta(x.Meta, plainMeta(want, len(inside)+8)) {
		t.Fatalf("Open of the record of %v = %v, %v; want %v", inside, x, e, want)
	}
	return true
}

func TestOpenOfAnything(t *testing.T) { // P10.4: of what was changed, and sealed anew
	for _, size := range []int{1, 4, 1000} {
		inside := plainInside(plainCut(size, []api.Entry{put("a", 9, "x"), gone("a", 3), put("ab", 300, "\x00\x00"), put("b", 0, "z")}))
		for i := range inside {
			for c := range 256 {
				spoilt := slices.Clone(inside)
				spoilt[i] = byte(c)
				if decodes(t, spoilt) != (byte(c) == inside[i]) {
					t.Errorf("%v at %d instead of %d is opened", c, i, inside[i])
				}
			}
			for j := i + 1; j <= len(inside); j++ {
				decodes(t, slices.Delete(slices.Clone(inside), i, j))
			}
			for _, c := range []byte{0, 1, 9, 128, 255} {
				decodes(t, slices.Insert(slices.Clone(inside), i, c))
			}
		}
	}
}

func TestSpoiltBlocks(t *testing.T) { // P10.4: a block's inside changed, and all sealed anew
	list := []api.Entry{put("a", 9, "x"), gone("a", 3), put("ab", 300, "y"), put("b", 0, "z")}
	two, fine := blockOf(4, list[3]), 0
	body := blockOf(4, list[:3]...)[8:]
	for i := range body {
		for c := range 256 {
			spoilt := slices.Clone(body)
			spoilt[i] = byte(c)
			if decodes(t, frame(frame(sealed(spoilt), two), filterOf(list...))) {
				fine++
			}
		}
	}
	if fine <= len(body) || fine == 256*len(body) { // other values and numbers make another table
		t.Errorf("%d of %d are opened", fine, 256*len(body))
	}
}

// random makes entries in order.
func random(r *rand.Rand) []api.Entry {
	m := mem.New()
	for range 1 + r.IntN(40) {
		x := api.Entry{Key: make([]byte, r.IntN(5)), Seq: r.Uint64() >> r.IntN(64), Kind: byte(1 + r.IntN(2))}
		for i := range x.Key {
			x.Key[i] = byte(97 + r.IntN(3))
		}
		if x.Kind == api.Put {
			x.Value = bytes.Repeat([]byte{byte(r.Uint32())}, r.IntN(100))
		}
		m.Put(x)
	}
	return m.Range(nil, nil)
}

func TestRandomTables(t *testing.T) { // P10.1, P10.2, P10.5
	r := rand.New(rand.NewPCG(10, 1))
	for i := range 300 {
		list, size := random(r), 1+r.IntN(200)
		d := disk.New(1 << 16)
		m, e := Write(d, "t", size, list...)
		want, meta, we := plainBytes(size, list...)
		if b, _ := d.Read("t"); e != we || !sameMeta(m, meta) || !bytes.Equal(b, want) {
			t.Fatalf("Write(%d, %v) = %v, %v; want %v, %v", size, list, m, e, meta, we)
		}
		x := opens(t, d, "t", list)
		if i%10 == 0 {
			agrees(t, x, list)
		}
		for _, y := range list {
			if got, ok := x.Get(y.Key, y.Seq); !ok || !same(got, y) {
				t.Fatalf("Get(%q, %d) = %v, %v; want %v", y.Key, y.Seq, got, ok, y)
			}
		}
	}
}

// roomy is a copy of b with spare room that holds other bytes.
func roomy(b []byte) []byte {
	return append(slices.Clone(b), 0, 1, 2, 255)[:len(b)]
}

// fill writes over a list, its spare room too.
func fill(b []byte) {
	b = b[:cap(b)]
	for i := range b {
		b[i] = 77
	}
}

// spoil writes over all of a list of entries.
func spoil(list []api.Entry) {
	for _, x := range list {
		fill(x.Key)
		fill(x.Value)
	}
	clear(list[:cap(list)])
}

// roomyList is a copy of entries in order with spare room, also in the list itself.
func roomyList(list []api.Entry) []api.Entry {
	var out []api.Entry
	for _, x := range list {
		x.Key, x.Value = roomy(x.Key), roomy(x.Value)
		out = append(out, x)
	}
	return append(out, put("~", 1, "more"))[:len(list)]
}

func TestMemoryOfBytes(t *testing.T) { // P10.6
	all := chain[2:]
	want, meta, _ := plainBytes(4, all...)
	list := roomyList(all)
	b, m, _ := Bytes(4, list...)
	again, m2, _ := Bytes(4, list...)
	d := disk.New(10000)
	m3, _ := Write(d, "t", 4, list...)
	_, alone, _ := Bytes(4, list[0])
	for i, x := range list {
		if !bytes.Equal(x.Key[:len(x.Key)+4], slices.Concat(all[i].Key, []byte{0, 1, 2, 255})) || !bytes.Equal(x.Value[:len(x.Value)+4], slices.Concat(all[i].Value, []byte{0, 1, 2, 255})) || x.Seq != all[i].Seq || x.Kind != all[i].Kind {
			t.Errorf("the entry %d is changed: %v", i, x)
		}
	}
	if x := list[:len(list)+1][len(list)]; !same(x, put("~", 1, "more")) {
		t.Errorf("the list's spare room is changed: %v", x)
	}
	spoil(list)
	fill(again)
	fill(m2.First)
	fill(m2.Last)
	if !bytes.Equal(b, want) || !sameMeta(m, meta) || !sameMeta(m3, meta) {
		t.Errorf("Bytes: the answers share memory")
	}
	fill(alone.First)
	if string(alone.Last) != "a" {
		t.Errorf("Bytes: First and Last share memory")
	}
	fill(m.First)
	fill(m3.First)
	fill(m3.Last)
	if !bytes.Equal(m.Last, meta.Last) {
		t.Errorf("Bytes: First and Last share memory")
	}
	opens(t, d, "t", all)
}

func TestMemoryOfTables(t *testing.T) { // P10.6
	d := disk.New(10000)
	all := chain[2:]
	Write(d, "t", 4, all...)
	Write(d, "one", 4, all[0])
	x := opens(t, d, "t", all)
	other, _ := Open(d, "t")
	one, _ := Open(d, "one")
	from, to := roomy([]byte("a")), roomy([]byte("ac"))
	list := x.Range(from, to)
	first, _ := x.Get(from, 9)
	second, _ := x.Get(from, 9)
	x.Overlaps(from, to)
	if !bytes.Equal(from[:5], []byte("a\x00\x01\x02\xff")) || !bytes.Equal(to[:6], []byte("ac\x00\x01\x02\xff")) {
		t.Errorf("what was handed in is changed")
	}
	for i := range list {
		fill(list[i].Key)
		if want := all[i]; !bytes.Equal(list[i].Value, want.Value) {
			t.Errorf("Range: a key shares memory with its value")
		}
		fill(list[i].Value)
		for j := i + 1; j < len(list); j++ {
			if !same(list[j], all[j]) {
				t.Errorf("Range: the entries %d and %d share memory", i, j)
			}
		}
	}
	spoil(x.Range(nil, nil))
	fill(second.Key)
	fill(second.Value)
	fill(from)
	fill(to)
	if !same(first, all[0]) {
		t.Errorf("Get: answers share memory: %v", first)
	}
	fill(one.First)
	if string(one.Last) != "a" {
		t.Errorf("Open: First and Last share memory")
	}
	for _, y := range []*Table{x, other} {
		if !slices.EqualFunc(y.Range(nil, nil), all, same) {
			t.Errorf("an answer shares memory with its table")
		}
	}
	fill(x.First)
	fill(x.Last)
	if !slices.EqualFunc(x.Range(nil, nil), all, same) || string(other.First) != "a" || string(other.Last) != "\xff\xff" {
		t.Errorf("a Meta shares memory with its table")
	}
	opens(t, d, "t", all)
	d.Remove("t") // a table that was opened has all it needs
	agrees(t, other, all)
}

// FuzzInside: Open of whatever is sealed.
func FuzzInside(f *testing.F) { // P1, P10.4
	for _, list := range lists()[:30] {
		f.Add(plainInside(plainCut(1, list)))
		f.Add(plainInside(plainCut(5, list)))
	}
	f.Fuzz(func(t *testing.T, inside []byte) { decodes(t, inside[:min(len(inside), 2000)]) })
}

// FuzzBlocks: Open of whatever is sealed in a block, with the filter that fits.
func FuzzBlocks(f *testing.F) { // P1, P10.4
	for _, list := range lists()[:10] {
		f.Add(blockOf(4, list...)[8:], []byte{})
		f.Add(blockOf(4, list[:1]...)[8:], blockOf(4, list...)[8:])
	}
	f.Fuzz(func(t *testing.T, one, two []byte) {
		blocks := [][]byte{sealed(one[:min(len(one), 1000)])}
		if len(two) > 0 {
			blocks = append(blocks, sealed(two[:min(len(two), 1000)]))
		}
		var list []api.Entry
		for _, b := range blocks {
			l, _ := block.Decode(b)
			list = append(list, l...)
		}
		decodes(t, frame(frame(blocks...), filterOf(list...)))
	})
}

// FuzzAny: Bytes, Write and a table's calls, of any entries; Open of any bytes.
func FuzzAny(f *testing.F) { // P1, P10.1 to P10.5
	f.Add(2, []byte("ab"), uint64(5), byte(1), []byte("x"), []byte("abc"), uint64(7), byte(2), []byte(nil), []byte("ab"), uint64(9), "t", 4, 5)
	f.Add(0, []byte("b"), uint64(5), byte(1), []byte("x"), []byte("a"), uint64(7), byte(1), []byte("y"), sealed([]byte{0, 0}), uint64(0), "", -1, -1)
	f.Fuzz(func(t *testing.T, size int, key []byte, seq uint64, kind byte, value []byte, key2 []byte, seq2 uint64, kind2 byte, value2 []byte, sought []byte, at uint64, name string, arm, keep int) {
		a, b := api.Entry{Key: key, Seq: seq, Kind: kind, Value: value}, api.Entry{Key: key2, Seq: seq2, Kind: kind2, Value: value2}
		for _, list := range [][]api.Entry{nil, {a}, {a, b}, {b, a}, {a, a}} {
			got, m, e := Bytes(size, list...)
			want, meta, we := plainBytes(size, list...)
			if e != we || !bytes.Equal(got, want) || !sameMeta(m, meta) {
				t.Fatalf("Bytes(%d, %v) = %v, %v, %v; want %v, %v, %v", size, list, got, m, e, want, meta, we)
			}
			d := disk.New(1 << 22)
			d.Arm(arm)
			m, e = Write(d, name, size, list...)
			if we != api.OK && e != we || e != api.OK && !sameMeta(m, Meta{}) || e == api.OK && !sameMeta(m, meta) {
				t.Fatalf("Write(%d, %v) = %v, %v; want %v, %v", size, list, m, e, meta, we)
			}
			d.Crash(keep)
			if e != api.OK {
				refused(t, "not written", d, name, api.ErrNone)
				continue
			}
			x := opens(t, d, name, list)
			table := mem.New()
			table.Put(list...)
			got1, ok := x.Get(sought, at)
			if want, there := table.Get(sought, at); ok != there || !same(got1, want) {
				t.Fatalf("Get(%q, %d) of %v = %v, %v", sought, at, list, got1, ok)
			}
			if got, want := x.Range(sought, key), table.Range(sought, key); !slices.EqualFunc(got, want, same) || len(got) > 0 && !x.Overlaps(sought, key) {
				t.Fatalf("Range(%q, %q) of %v = %v", sought, key, list, got)
			}
		}
		d := with(name, sought)
		if x, e := Open(d, name); (e == api.OK) != (x != nil) || e == api.OK && !bytes.Equal(sealed(sought[8:]), sought) {
			t.Fatalf("Open of %v = %v, %v", sought, x, e)
		}
	})
}
