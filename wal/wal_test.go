package wal

import (
	"bytes"
	"fmt"
	"math"
	"math/rand/v2"
	"slices"
	"strings"
	"testing"
	"unsafe"

	"caisson/api"
	"caisson/crc"
	"caisson/disk"
)

// name is that of a segment with the prefix p.
func name(first uint64) string { return fmt.Sprintf("p%016x", first) }

// seals are the sealed records, one behind the other.
func seals(records ...[]byte) []byte {
	var out []byte
	for _, r := range records {
		sealed, _ := crc.Seal(r)
		out = append(out, sealed...)
	}
	return out
}

// texts are records with these texts.
func texts(list ...string) [][]byte {
	var out [][]byte
	for _, s := range list {
		out = append(out, []byte(s))
	}
	return out
}

// same: are these the same records?
func same(a, b [][]byte) bool { return slices.EqualFunc(a, b, bytes.Equal) }

// files are all files of a disk, with their bytes.
func files(d *disk.Disk) map[string]string {
	out := map[string]string{}
	for _, name := range d.List("") {
		b, _ := d.Read(name)
		out[name] = string(b)
	}
	return out
}

// safeFiles are what a crash that keeps nothing leaves of them.
func safeFiles(d *disk.Disk) map[string]string {
	twin := d.Twin()
	twin.Crash()
	return files(twin)
}

// open opens a log that must open, with just these records, the first of them with the index first.
func open(t *testing.T, d *disk.Disk, most int, first uint64, want ...[]byte) *Log {
	t.Helper()
	l, got, e := Open(d, "p", most)
	if e != api.OK || !same(got, want) || l.First() != first || l.Next() != first+uint64(len(want)) {
		t.Fatalf("Open = %q, %v; want %q from %d on", got, e, want, first)
	}
	return l
}

// answers looks what a call answered.
func answers(t *testing.T, call string, got, want api.Errno) {
	t.Helper()
	if got != want {
		t.Errorf("%s = %v; want %v", call, got, want)
	}
}

// appends appends records that must get the indexes from index on.
func appends(t *testing.T, l *Log, index uint64, records ...string) {
	t.Helper()
	if got, e := l.Append(texts(records...)...); got != index || e != api.OK || l.Next() != index+uint64(len(records)) {
		t.Errorf("Append(%q) = %d, %v; Next %d; want %d", records, got, e, l.Next(), index)
	}
}

// lies looks whether a disk has just these files, by turns their names and their bytes.
func lies(t *testing.T, d *disk.Disk, want ...string) {
	t.Helper()
	all := files(d)
	for ; len(want) > 0; want = want[2:] {
		if b, there := all[want[0]]; !there || b != want[1] {
			t.Errorf("the file %q is %q, %v; want %q", want[0], b, there, want[1])
		}
		delete(all, want[0])
	}
	if len(all) > 0 {
		t.Errorf("there are these files, too: %q", all)
	}
}

func TestExamples(t *testing.T) { // P5.1
	d := disk.New(1000)
	l := open(t, d, 100, 0)
	lies(t, d)
	appends(t, l, 0, "a", "b")
	appends(t, l, 2, "c")
	lies(t, d, name(0), string(seals(texts("a", "b", "c")...)))
	open(t, d, 100, 0, texts("a", "b", "c")...)

	d = disk.New(1000)
	l = open(t, d, 1, 0)
	appends(t, l, 0, "a", "b")
	appends(t, l, 2, "c")
	lies(t, d, name(0), string(seals(texts("a", "b")...)), name(2), string(seals(texts("c")...)))
	answers(t, "Drop", l.Drop(2), api.OK)
	lies(t, d, name(2), string(seals(texts("c")...)))

	d = disk.New(1000)
	l = open(t, d, 100, 0)
	appends(t, l, 0, "a")
	answers(t, "Sync", l.Sync(), api.OK)
	appends(t, l, 1, "b")
	d.Crash()
	open(t, d, 100, 0, texts("a")...)
}

func TestSegments(t *testing.T) { // P5.1
	long := strings.Repeat("x", 20)
	for _, c := range []struct {
		most  int
		wants []uint64 // where segments begin, when five records of 28 bytes each are appended alone
	}{{1, []uint64{0, 1, 2, 3, 4}}, {28, []uint64{0, 1, 2, 3, 4}}, {29, []uint64{0, 2, 4}}, {56, []uint64{0, 2, 4}}, {57, []uint64{0, 3}}, {140, []uint64{0}}, {math.MaxInt, []uint64{0}}} {
		d := disk.New(1000)
		l := open(t, d, c.most, 0)
		for i := range uint64(5) {
			appends(t, l, i, long)
		}
		var want []string
		for i, first := range c.wants {
			end := uint64(5)
			if i+1 < len(c.wants) {
				end = c.wants[i+1]
			}
			want = append(want, name(first), strings.Repeat(string(seals(texts(long)...)), int(end-first)))
		}
		lies(t, d, want...)
		if safe := safeFiles(d); len(c.wants) > 1 && safe[name(0)] != want[1] { // those ahead of the last one are synced
			t.Errorf("most %d: the first segment isn't safe", c.most)
		}
		open(t, d, c.most, 0, texts(long, long, long, long, long)...)
	}
}

func TestOpenedSegment(t *testing.T) { // P5.1: what was in the last segment counts when it is opened again
	d := disk.New(1000)
	appends(t, open(t, d, 10, 0), 0, "abc")
	appends(t, open(t, d, 12, 0, texts("abc")...), 1, "d")
	appends(t, open(t, d, 20, 0, texts("abc", "d")...), 2, "e")
	lies(t, d, name(0), string(seals(texts("abc", "d")...)), name(2), string(seals(texts("e")...)))
	if safe := safeFiles(d); len(safe[name(0)]) != 20 || len(safe[name(2)]) != 0 {
		t.Errorf("safe is %q", safe)
	}
	open(t, d, 1, 0, texts("abc", "d", "e")...)
}

func TestNoRecords(t *testing.T) { // P5.1
	d := disk.New(0)
	l := open(t, d, 1, 0)
	appends(t, l, 0)
	answers(t, "Sync without a segment", l.Sync(), api.OK)
	answers(t, "Rotate without a segment", l.Rotate(), api.OK)
	answers(t, "Drop without a segment", l.Drop(math.MaxUint64), api.OK)
	lies(t, d)

	d = disk.New(1000)
	l = open(t, d, 100, 0)
	appends(t, l, 0, "", "")
	answers(t, "Rotate", l.Rotate(), api.OK)
	appends(t, l, 2) // it isn't the next one
	lies(t, d, name(0), string(seals(nil, nil)))
	appends(t, l, 2, "")
	lies(t, d, name(0), string(seals(nil, nil)), name(2), string(seals(nil)))
	d.Arm(0)
	answers(t, "Sync", l.Sync(), api.ErrDead)
	appends(t, l, 3) // nothing is done, though the disk be dead
	d.Crash(8)
	open(t, d, 100, 0, nil, nil, nil)
}

func TestRotate(t *testing.T) { // P5.1
	d := disk.New(1000)
	l := open(t, d, 1000, 0)
	appends(t, l, 0, "a")
	answers(t, "Rotate", l.Rotate(), api.OK)
	if safe := safeFiles(d); safe[name(0)] != string(seals(texts("a")...)) {
		t.Errorf("Rotate: safe is %q", safe)
	}
	answers(t, "Rotate once more", l.Rotate(), api.OK)
	lies(t, d, name(0), string(seals(texts("a")...)))
	appends(t, l, 1, "b")
	appends(t, l, 2, "c") // one Rotate, one new segment
	lies(t, d, name(0), string(seals(texts("a")...)), name(1), string(seals(texts("b", "c")...)))
	answers(t, "Rotate", l.Rotate(), api.OK)
	l = open(t, d, 1000, 0, texts("a", "b", "c")...)
	appends(t, l, 3, "d") // that it was rotated isn't on the disk
	lies(t, d, name(0), string(seals(texts("a")...)), name(1), string(seals(texts("b", "c", "d")...)))
}

func TestRotateEmpty(t *testing.T) { // P5.1, P5.2
	d := disk.New(1000)
	l := open(t, d, 1, 0)
	appends(t, l, 0, "a")
	appends(t, l, 1, "b")
	d.Crash() // the segment 1 is there, without a record
	lies(t, d, name(0), string(seals(texts("a")...)), name(1), "")
	l = open(t, d, 1000, 0, texts("a")...)
	answers(t, "Rotate", l.Rotate(), api.OK)
	appends(t, l, 1, "c")
	appends(t, l, 2, "d")
	lies(t, d, name(0), string(seals(texts("a")...)), name(1), string(seals(texts("c", "d")...)))
	open(t, d, 1000, 0, texts("a", "c", "d")...)

	d = disk.New(1000)
	appends(t, open(t, d, 1, 0), 0, "a")
	d.Crash()
	l = open(t, d, 1, 0)
	answers(t, "Rotate of an empty log", l.Rotate(), api.OK)
	appends(t, l, 0, "b")
	lies(t, d, name(0), string(seals(texts("b")...)))
}

func TestRotateFails(t *testing.T) { // P5.2
	d := disk.New(1000)
	l := open(t, d, 1000, 0)
	appends(t, l, 0, "a")
	d.Arm(0)
	answers(t, "Rotate", l.Rotate(), api.ErrDead)
	answers(t, "Rotate of a dead disk", l.Rotate(), api.ErrDead)
	answers(t, "Sync of a dead disk", l.Sync(), api.ErrDead)
	if i, e := l.Append(texts("b")...); i != 0 || e != api.ErrDead || l.Next() != 1 {
		t.Errorf("Append of a dead disk = %d, %v; Next %d", i, e, l.Next())
	}
}

func TestSyncDone(t *testing.T) { // P5.2
	d := disk.New(1000)
	l := open(t, d, 1000, 0)
	appends(t, l, 0, "a", "b")
	d.Arm(1)
	answers(t, "Sync", l.Sync(), api.OK)
	d.Arm(-1)
	d.Crash()
	l = open(t, d, 1000, 0, texts("a", "b")...)
	appends(t, l, 2, "c")
	l = open(t, d, 1000, 0, texts("a", "b", "c")...)
	answers(t, "Sync of what another one appended", l.Sync(), api.OK)
	d.Crash()
	open(t, d, 1000, 0, texts("a", "b", "c")...)
}

func TestMost(t *testing.T) { // P5.1
	for _, most := range []int{0, -1, math.MinInt} {
		for _, dead := range []bool{false, true} {
			d := disk.New(100)
			d.Append(name(0), []byte("torn"))
			if dead {
				d.Arm(0)
				d.Sync(name(0))
			}
			if l, records, e := Open(d, "p", most); l != nil || len(records) != 0 || e != api.ErrArg {
				t.Errorf("Open with most %d = %v, %q, %v", most, l, records, e)
			}
			d.Crash(4)
			lies(t, d, name(0), "torn")
		}
	}
}

func TestDeadDisk(t *testing.T) { // P5.2
	for _, file := range []string{name(0), "other"} {
		d := disk.New(100)
		d.Arm(0)
		d.Append(file, []byte("torn"))
		if l, records, e := Open(d, "p", 1); l != nil || len(records) != 0 || e != api.ErrDead {
			t.Errorf("Open of a dead disk = %v, %q, %v", l, records, e)
		}
	}
}

func TestRecordSize(t *testing.T) { // P5.1
	most := bytes.Repeat([]byte{7}, api.MaxRecord)
	tooLong := append(slices.Clone(most), 7)
	d := disk.New(1 << 30)
	l := open(t, d, 10, 0)
	if i, e := l.Append(most, most); i != 0 || e != api.OK {
		t.Errorf("Append of records of MaxRecord bytes = %d, %v", i, e)
	}
	before := files(d)
	for _, records := range [][][]byte{{tooLong}, {most, tooLong}, {tooLong, nil}, {nil, tooLong, nil}} {
		if i, e := l.Append(records...); i != 0 || e != api.ErrSize || l.Next() != 2 {
			t.Errorf("Append of a record that is too long = %d, %v; Next %d", i, e, l.Next())
		}
	}
	if after := files(d); len(after) != 1 || after[name(0)] != before[name(0)] {
		t.Errorf("Append of a record that is too long changes the disk")
	}
	if safe := safeFiles(d); safe[name(0)] != "" {
		t.Errorf("Append of a record that is too long syncs")
	}
	d.Arm(0)
	if i, e := l.Append(tooLong); i != 0 || e != api.ErrSize || d.Dead() {
		t.Errorf("Append of a record that is too long, of an armed disk = %d, %v", i, e)
	}
	l.Sync()
	if i, e := l.Append(tooLong); i != 0 || e != api.ErrSize {
		t.Errorf("Append of a record that is too long, of a dead disk = %d, %v", i, e)
	}
	d.Crash(math.MaxInt)
	full := disk.New(10)
	if i, e := open(t, full, 10, 0).Append(tooLong); i != 0 || e != api.ErrSize {
		t.Errorf("Append of a record that is too long, of a full disk = %d, %v", i, e)
	}
}

func TestDrop(t *testing.T) { // P5.3
	for n := range uint64(12) {
		d := disk.New(1000)
		l := open(t, d, 1, 0)
		var all []string
		want := uint64(0)
		for i, records := range [][]string{{"a"}, {"b", "c"}, {"d", "e", "f"}, {"g"}} { // they begin at 0, 1, 3, 6; next is 7
			first := uint64(len(all))
			appends(t, l, first, records...)
			all = append(all, records...)
			if i > 0 && first <= n {
				want = first
			}
		}
		answers(t, "Drop", l.Drop(n), api.OK)
		if l.First() != want || l.Next() != 7 {
			t.Errorf("Drop(%d): First %d, Next %d; want %d", n, l.First(), l.Next(), want)
		}
		answers(t, "Drop once more", l.Drop(n), api.OK)
		l = open(t, d, 1, want, texts(all[want:]...)...)
		answers(t, "Drop of what is gone", l.Drop(n), api.OK)
		if l.First() != want {
			t.Errorf("Drop(%d), opened again: First %d; want %d", n, l.First(), want)
		}
		appends(t, l, 7, "h")
		answers(t, "Drop of all", l.Drop(math.MaxUint64), api.OK)
		lies(t, d, name(7), string(seals(texts("h")...)))
		if l.First() != 7 || l.Next() != 8 {
			t.Errorf("Drop of all: First %d, Next %d", l.First(), l.Next())
		}
	}
}

func TestDropNone(t *testing.T) { // P5.3
	d := disk.New(1000)
	l := open(t, d, 100, 0)
	appends(t, l, 0, "a", "b")
	answers(t, "Drop", l.Drop(9), api.OK) // never the last one
	lies(t, d, name(0), string(seals(texts("a", "b")...)))
	d.Crash()
	l = open(t, d, 100, 0)
	answers(t, "Drop", l.Drop(9), api.OK) // though it have no record
	lies(t, d, name(0), "")
}

func TestDyingDrop(t *testing.T) { // P5.2, P5.3
	for dies := range 4 {
		d := disk.New(1000)
		l := open(t, d, 1, 0)
		for i, s := range []string{"a", "b", "c", "d"} {
			appends(t, l, uint64(i), s)
		}
		d.Arm(dies)
		want := api.ErrDead
		if dies == 3 {
			want = api.OK
		}
		answers(t, "Drop", l.Drop(5), want)
		if l.First() != uint64(dies) || l.Next() != 4 {
			t.Errorf("Drop that dies after %d: First %d, Next %d", dies, l.First(), l.Next())
		}
		d.Crash(9)
		open(t, d, 1, uint64(dies), texts("a", "b", "c", "d")[dies:]...)
	}
}

func TestFull(t *testing.T) { // P5.5
	for _, most := range []int{1, 100} {
		d := disk.New(30)
		l := open(t, d, most, 0)
		appends(t, l, 0, "abcd", "ef") // 22 bytes
		for _, records := range [][]string{{"g"}, {"", ""}, {strings.Repeat("x", 1000)}} {
			if i, e := l.Append(texts(records...)...); i != 0 || e != api.ErrFull || l.Next() != 2 || l.First() != 0 {
				t.Errorf("Append(%.9q) of a full disk = %d, %v; Next %d", records, i, e, l.Next())
			}
			lies(t, d, name(0), string(seals(texts("abcd", "ef")...)))
			open(t, d, most, 0, texts("abcd", "ef")...)
		}
		answers(t, "Sync of a full disk", l.Sync(), api.OK)
		answers(t, "Rotate of a full disk", l.Rotate(), api.OK)
		if i, e := l.Append(texts("g")...); i != 0 || e != api.ErrFull {
			t.Errorf("Append of a full disk = %d, %v", i, e)
		}
		appends(t, l, 2, "") // what has room just so; and it was rotated
		lies(t, d, name(0), string(seals(texts("abcd", "ef")...)), name(2), string(seals(nil)))
		if i, e := l.Append(nil); i != 0 || e != api.ErrFull || l.Next() != 3 {
			t.Errorf("Append of a full disk = %d, %v; Next %d", i, e, l.Next())
		}
		answers(t, "Drop of a full disk", l.Drop(2), api.OK)
		appends(t, l, 3, "h")
		answers(t, "Sync", l.Sync(), api.OK)
		d.Crash()
		open(t, d, most, 2, texts("", "h")...)
	}
	d := disk.New(0)
	l := open(t, d, 1, 0)
	if i, e := l.Append(nil); i != 0 || e != api.ErrFull || l.Next() != 0 || l.First() != 0 {
		t.Errorf("Append without room = %d, %v; Next %d", i, e, l.Next())
	}
	lies(t, d)
}

func TestNames(t *testing.T) { // P5.1
	d := disk.New(1000)
	others := []string{
		"p", "", "x", "p000000000000000", "p00000000000000000", "p000000000000000A", "p000000000000000g", "p00000000000000 0", "p-000000000000001", "P0000000000000000", "0000000000000000",
		"p00000000000000\u00e9", "p000000000000000\xff", "p000000000000000/", "p000000000000000:", "p000000000000000`", "pp0000000000000000", "p0x00000000000000", "p+000000000000000", "p0_00000000000000", "p000000000000000\u0660",
	}
	for _, other := range others {
		d.Append(other, []byte(other))
	}
	l := open(t, d, 1, 0)
	appends(t, l, 0, "a")
	appends(t, l, 1, "b")
	l.Drop(1)
	open(t, d, 1, 1, texts("b")...)
	for _, other := range others {
		if b, e := d.Read(other); string(b) != other || e != api.OK {
			t.Errorf("the file %q, which is nobody's, is %q, %v", other, b, e)
		}
	}
	if got := len(d.List("")); got != len(others)+1 {
		t.Errorf("there are %d files", got)
	}
}

func TestPrefixes(t *testing.T) { // P5.1
	d := disk.New(10000)
	prefixes := []string{"", "p", "p0", "pp", "0", "00", "\xff", "p.w.", "ffffffffffffffff"}
	logs := map[string]*Log{}
	for round := range uint64(3) {
		for _, prefix := range prefixes {
			if round == 0 {
				logs[prefix], _, _ = Open(d, prefix, 1)
			}
			if i, e := logs[prefix].Append([]byte(prefix)); i != round || e != api.OK {
				t.Errorf("Append = %d, %v", i, e)
			}
		}
	}
	for _, prefix := range prefixes {
		l, records, e := Open(d, prefix, 1)
		if want := []byte(prefix); e != api.OK || !same(records, [][]byte{want, want, want}) || l.Next() != 3 {
			t.Errorf("Open(%q) = %q, %v", prefix, records, e)
		}
		if _, e := d.Read(prefix + "0000000000000002"); e != api.OK {
			t.Errorf("%q has no segment 2", prefix)
		}
	}
}

func TestHighIndexes(t *testing.T) { // P5.1
	for _, first := range []uint64{1, 9, 10, 15, 16, 0xabcdef, 1 << 63, math.MaxUint64 - 2} {
		d := disk.New(1000)
		d.Append(name(first), seals(texts("a")...))
		l := open(t, d, 1, first, texts("a")...)
		appends(t, l, first+1, "b")
		lies(t, d, name(first), string(seals(texts("a")...)), name(first+1), string(seals(texts("b")...)))
		answers(t, "Drop", l.Drop(first), api.OK)
		open(t, d, 1, first, texts("a", "b")...)
		answers(t, "Drop", l.Drop(first+1), api.OK)
		open(t, d, 1, first+1, texts("b")...)
	}
}

func TestLastIndex(t *testing.T) { // P1: behind the last index of all nothing is said, but that calls end
	d := disk.New(1000)
	d.Append(name(math.MaxUint64), seals(texts("a", "b")...))
	l, records, e := Open(d, "p", 1)
	if e != api.OK || !same(records, texts("a", "b")) || l.First() != math.MaxUint64 {
		t.Errorf("Open = %q, %v", records, e)
	}
	for _, n := range []uint64{0, 1, math.MaxUint64} {
		l.Append(nil)
		l.Rotate()
		l.Drop(n)
	}
}

func TestTorn(t *testing.T) { // P5.2
	records := texts("a", "", "bcd")
	whole := seals(records...)
	ends := []int{0, 9, 17, 28}
	for size := range len(whole) + 1 {
		n := 0
		for n < 3 && ends[n+1] <= size {
			n++
		}
		for _, behind := range []string{"", "\x00", "\xff\xff\xff\xff\xff\xff\xff\xff\xff"} {
			d := disk.New(1000)
			d.Append(name(5), whole[:size])
			d.Append(name(5), []byte(behind))
			torn := len(behind) > 0 || size > ends[n]
			if bytes.HasPrefix(whole[size:], []byte(behind)) && len(behind) > 0 {
				continue // it is how the record goes on
			}
			l := open(t, d, 1000, 5, records[:n]...)
			lies(t, d, name(5), string(whole[:ends[n]]))
			if safe := safeFiles(d)[name(5)]; torn && len(safe) != ends[n] || !torn && len(safe) != 0 {
				t.Errorf("cut from %d to %d: %d bytes are safe", size, ends[n], len(safe))
			}
			appends(t, l, 5+uint64(n), "new")
			open(t, d, 1000, 5, append(slices.Clone(records[:n]), []byte("new"))...)
		}
	}
}

// bed is a disk with segments that don't fit, or aren't whole.
type bed struct {
	files   map[string]string
	first   uint64
	records [][]byte
	left    map[string]string // what Open leaves
}

func beds() []bed {
	a, b, c := string(seals(texts("a")...)), string(seals(texts("b")...)), string(seals(texts("c")...))
	type m = map[string]string
	return []bed{
		{m{name(0): a, name(1): b, name(2): c}, 0, texts("a", "b", "c"), m{name(0): a, name(1): b, name(2): c}},
		{m{name(0): a, name(2): b, name(3): c}, 0, texts("a"), m{name(0): a}},                                   // 1 is wanting
		{m{name(0): a + b, name(1): b, name(2): c}, 0, texts("a", "b"), m{name(0): a + b}},                      // 1 is there twice
		{m{name(0): a, name(1): b + "x", name(2): c}, 0, texts("a", "b"), m{name(0): a, name(1): b}},            // torn, and the next one fits
		{m{name(0): a, name(1): "x" + b, name(2): c, name(3): c}, 0, texts("a"), m{name(0): a, name(1): ""}},    // torn from its beginning on
		{m{name(0): "", name(1): b}, 0, nil, m{name(0): ""}},                                                    // empty, and not the last one
		{m{name(7): "", name(8): b, name(9): c}, 7, nil, m{name(7): ""}},                                        // it begins later
		{m{name(7): a, name(8): b, name(9): ""}, 7, texts("a", "b"), m{name(7): a, name(8): b, name(9): ""}},    // the last one is empty
		{m{name(7): a, name(8): b, name(9): c[:5]}, 7, texts("a", "b"), m{name(7): a, name(8): b, name(9): ""}}, // or torn
		{m{name(7): a[:8], name(8): b, name(9): c}, 7, nil, m{name(7): ""}},                                     // the first one
		{m{name(15): a, name(16): b, name(256): c}, 15, texts("a", "b"), m{name(15): a, name(16): b}},           // over a digit
		{m{name(0): a + b + c + "xyz", "q": "x", "p1": a}, 0, texts("a", "b", "c"), m{name(0): a + b + c, "q": "x", "p1": a}},
		{m{name(math.MaxUint64): a + "x"}, math.MaxUint64, texts("a"), m{name(math.MaxUint64): a}},
	}
}

func TestBadSegments(t *testing.T) { // P5.2, P5.4
	for i, c := range beds() {
		d := laid(c.files)
		open(t, d, 1, c.first, c.records...)
		if got := files(d); fmt.Sprint(got) != fmt.Sprint(c.left) {
			t.Errorf("bed %d: Open leaves %q; want %q", i, got, c.left)
		}
		if c.first < math.MaxUint64 {
			goesOn(t, laid(c.files), c.first, c.records)
		}
		for dies := 0; ; dies++ { // wherever Open dies, a later one answers the same
			d := laid(c.files)
			d.Crash(math.MaxInt)
			d.Arm(dies)
			l, records, e := Open(d, "p", 1)
			if e == api.OK && !d.Dead() {
				d.Crash()
				open(t, d, 1, c.first, c.records...)
				break
			}
			if l != nil || len(records) != 0 || e != api.ErrDead {
				t.Errorf("bed %d: Open that dies = %v, %q, %v", i, l, records, e)
			}
			d.Crash()
			open(t, d, 1, c.first, c.records...)
			if got := files(d); fmt.Sprint(got) != fmt.Sprint(c.left) {
				t.Errorf("bed %d: Open behind one that died leaves %q; want %q", i, got, c.left)
			}
		}
	}
}

// goesOn looks whether a log that was mended takes records, and drops segments, as any other one.
func goesOn(t *testing.T, d *disk.Disk, first uint64, records [][]byte) {
	t.Helper()
	next := first + uint64(len(records))
	l := open(t, d, 1000, first, records...)
	appends(t, l, next, "d")
	answers(t, "Rotate", l.Rotate(), api.OK)
	appends(t, l, next+1, "e")
	open(t, d, 1000, first, slices.Concat(records, texts("d", "e"))...)
	answers(t, "Drop", l.Drop(next+1), api.OK)
	open(t, d, 1000, next+1, texts("e")...)
}

// laid is a disk with these files, all of whose bytes are safe.
func laid(all map[string]string) *disk.Disk {
	d := disk.New(1 << 20)
	for name, b := range all {
		d.Append(name, []byte(b))
		d.Sync(name)
	}
	return d
}

func TestOrderOfRemoval(t *testing.T) { // P5.4
	for dies, want := range [][]uint64{{0, 2, 3, 4}, {0, 2, 3}, {0, 2}, {0}} { // the last one goes first, and then the first one is cut
		d := disk.New(1000)
		for _, first := range []uint64{0, 2, 3, 4} {
			d.Append(name(first), seals(texts("a")...))
		}
		d.Arm(dies)
		Open(d, "p", 1)
		d.Crash(math.MaxInt)
		var left []string
		for _, first := range want {
			left = append(left, name(first))
		}
		if got := d.List(""); !slices.Equal(got, left) {
			t.Errorf("Open that dies after %d calls leaves %q", dies, got)
		}
	}
	d := disk.New(1000)
	d.Append(name(0), seals(texts("a")...))
	d.Append(name(2), seals(texts("b")...))
	open(t, d, 1, 0, texts("a")...)
	if safe := safeFiles(d); len(safe[name(0)]) != 9 { // it is cut, too, though it is whole
		t.Errorf("safe is %q", safe)
	}
}

func TestOpenOfWhole(t *testing.T) { // P5.1: where all fits nothing is done
	d := disk.New(1000)
	l := open(t, d, 1, 0)
	for i, s := range []string{"a", "b", "c"} {
		appends(t, l, uint64(i), s)
	}
	d.Arm(0)
	open(t, d, 1, 0, texts("a", "b", "c")...)
	if d.Dead() {
		t.Errorf("Open turns something")
	}
}

// plainOpen is what Open says and leaves of these files, by the words of the document.
func plainOpen(all map[string]string, prefix string) (first uint64, records [][]byte, left map[string]string) {
	var found []uint64
	left = map[string]string{}
	for name, b := range all {
		var n uint64
		if _, e := fmt.Sscanf(strings.TrimPrefix(name, prefix), "%x", &n); e == nil && name == fmt.Sprintf("%s%016x", prefix, n) {
			found = append(found, n)
		} else {
			left[name] = b
		}
	}
	slices.Sort(found)
	next := uint64(0)
	for i, n := range found {
		if i == 0 {
			first, next = n, n
		}
		if n != next {
			break
		}
		b := all[fmt.Sprintf("%s%016x", prefix, n)]
		at := 0
		for {
			r, end, e := crc.Open([]byte(b), at)
			if e != api.OK {
				break
			}
			records = append(records, r)
			next++
			at = end
		}
		left[fmt.Sprintf("%s%016x", prefix, n)] = b[:at]
		if at < len(b) {
			break
		}
	}
	return first, records, left
}

// player plays scripts upon a log, with the records that it must have.
type player struct {
	t       *testing.T
	d       *disk.Disk
	l       *Log
	room    int
	most    int
	all     [][]byte // by their indexes, from 0 on, dropped ones too
	safe    int      // so many of them are safe at least
	begins  []uint64 // where segments begin
	size    int      // of the last one
	rotated bool
	calls   int
}

func play(t *testing.T, room, most int, script []byte) {
	p := &player{t: t, d: disk.New(room), room: room, most: most}
	p.l = open(t, p.d, most, 0)
	for ; len(script) >= 3; script = script[3:] {
		p.calls++
		p.step(script[0], int(script[1]), int(script[2]))
	}
}

func (p *player) step(kind byte, a, b int) {
	switch kind % 16 {
	default:
		p.append(a, b)
	case 8, 9:
		if e := p.l.Sync(); p.alive("Sync", e) {
			p.safe = len(p.all)
		}
	case 10:
		if e := p.l.Rotate(); p.alive("Rotate", e) {
			p.safe, p.rotated = len(p.all), p.size > 0
		}
	case 11:
		p.drop(uint64(a))
	case 12:
		if p.most = 1 + b; a < 200 {
			p.most = 1 + b%40
		}
		p.opened(p.d)
		p.rotated = false
	case 13:
		p.crash(nil, a, b)
	case 14, 15:
		p.d.Arm(a % 8)
	}
	if !p.d.Dead() {
		p.agree()
	}
}

// alive looks what a call answered that only a dead disk refuses.
func (p *player) alive(call string, e api.Errno) bool {
	p.t.Helper()
	if e == api.ErrDead && p.d.Dead() {
		p.crash(nil, p.calls, 3*p.calls)
		return false
	}
	if e != api.OK {
		p.t.Fatalf("%s = %v", call, e)
	}
	return true
}

func (p *player) append(a, b int) {
	var records [][]byte
	for i := range a % 4 {
		records = append(records, bytes.Repeat([]byte{byte(len(p.all)), byte(i)}, b%23))
	}
	sealed := seals(records...)
	full := p.d.Used()+len(sealed) > p.room
	i, e := p.l.Append(records...)
	switch {
	case len(records) == 0 && i == uint64(len(p.all)) && e == api.OK:
	case i == 0 && e == api.ErrDead && p.d.Dead():
		p.crash(records, a, b)
	case full && i == 0 && e == api.ErrFull:
	case !full && i == uint64(len(p.all)) && e == api.OK:
		if len(p.begins) == 0 || p.size >= p.most || p.rotated {
			p.safe = len(p.all)
			p.begins, p.size, p.rotated = append(p.begins, i), 0, false
		}
		p.size += len(sealed)
		p.all = append(p.all, records...)
	default:
		p.t.Fatalf("Append of %d records at %d = %d, %v", len(records), len(p.all), i, e)
	}
}

func (p *player) drop(n uint64) {
	before := p.begins
	e := p.l.Drop(n)
	for len(p.begins) > 1 && p.begins[1] <= n {
		p.begins = p.begins[1:]
	}
	if e != api.ErrDead || !p.d.Dead() {
		if e != api.OK {
			p.t.Fatalf("Drop(%d) = %v", n, e)
		}
		return
	}
	first := p.l.First()
	i := slices.Index(before, first)
	if i < 0 || first >= p.begins[0] && len(before) > len(p.begins) || p.l.Next() != uint64(len(p.all)) {
		p.t.Fatalf("Drop(%d) that died: First %d, Next %d; it had the segments %d", n, first, p.l.Next(), before)
	}
	p.begins = before[i:]
	p.crash(nil, p.calls, 5*p.calls)
}

// crash crashes the disk, in whose last call these records were on their way, and opens the log again, which may die over it a few times.
func (p *player) crash(coming [][]byte, a, b int) {
	p.t.Helper()
	first := p.l.First()
	p.d.Crash(a, b, a*b, math.MaxInt-a)
	before := files(p.d)
	for dies := 0; dies < a%4; dies++ {
		p.d.Arm(dies)
		if _, _, e := Open(p.d, "p", p.most); e != api.OK && e != api.ErrDead {
			p.t.Fatalf("Open that may die = %v", e)
		}
		p.d.Crash(b)
	}
	_, want, _ := plainOpen(before, "p")
	records := p.opened(p.d)
	known := append(slices.Clone(p.all), coming...)
	n := int(first) + len(records)
	if p.l.First() != first || !same(records, want) || n < p.safe || n > len(known) || !same(records, known[first:n]) {
		p.t.Fatalf("Open behind a crash: %d records from %d on; want %d of %d, at least up to %d", len(records), p.l.First(), len(want), len(known), p.safe)
	}
	p.d.Crash(a)
	if again := p.opened(p.d); !same(again, records) {
		p.t.Fatalf("Open behind a second crash: %d records; want %d", len(again), len(records))
	}
	p.all, p.safe, p.rotated = known[:n], n, false
}

// opened opens the log again, and takes from the disk where segments begin.
func (p *player) opened(d *disk.Disk) [][]byte {
	p.t.Helper()
	l, records, e := Open(d, "p", p.most)
	if e == api.ErrDead && d.Dead() { // it was armed
		d.Crash(math.MaxInt)
		l, records, e = Open(d, "p", p.most)
	}
	if e != api.OK {
		p.t.Fatalf("Open = %v", e)
	}
	p.l, p.begins, p.size = l, nil, 0
	for _, file := range d.List("p") {
		b, _ := d.Read(file)
		var n uint64
		fmt.Sscanf(file, "p%x", &n)
		p.begins, p.size = append(p.begins, n), len(b)
	}
	return records
}

// agree looks whether the log and its files are as they must be.
func (p *player) agree() {
	p.t.Helper()
	first := uint64(0)
	if len(p.begins) > 0 {
		first = p.begins[0]
	}
	if p.l.First() != first || p.l.Next() != uint64(len(p.all)) {
		p.t.Fatalf("First %d, Next %d; want %d, %d", p.l.First(), p.l.Next(), first, len(p.all))
	}
	var want []string
	for i, begin := range p.begins {
		end := uint64(len(p.all))
		if i+1 < len(p.begins) {
			end = p.begins[i+1]
		}
		want = append(want, name(begin), string(seals(p.all[begin:end]...)))
	}
	lies(p.t, p.d, want...)
	twin := p.d.Twin()
	twin.Arm(-1)
	open(p.t, twin, 1, first, p.all[first:]...)
	twin = p.d.Twin()
	twin.Crash()
	if _, records, e := Open(twin, "p", 1); e != api.OK || int(first)+len(records) < p.safe {
		p.t.Fatalf("Open behind a crash that keeps nothing: %d records from %d on, %v; %d are safe", len(records), first, e, p.safe)
	}
}

func TestAnyCalls(t *testing.T) { // P5.1 to P5.5
	for seed := range uint64(400) {
		r := rand.New(rand.NewPCG(seed, 5))
		script := make([]byte, 3*60)
		for i := range script {
			script[i] = byte(r.Uint32())
		}
		play(t, []int{0, 60, 300, 1 << 15}[seed%4], []int{1, 20, 60, 1000}[seed/4%4], script)
	}
}

func TestAnyDeath(t *testing.T) { // P5.2, P5.4
	// With the disk armed with each number: appended, synced, rotated and dropped.
	script := []byte{0, 2, 5, 8, 0, 0, 0, 3, 7, 0, 1, 22, 10, 0, 0, 0, 2, 9, 0, 1, 1, 11, 4, 0, 0, 3, 11, 8, 0, 0, 0, 1, 3, 10, 0, 0, 0, 1, 1, 11, 200, 0, 0, 2, 2}
	for _, most := range []int{1, 30, 1000} {
		for dies := range 40 {
			for at := 0; at < len(script); at += 3 {
				armed := slices.Insert(slices.Clone(script), at, 14, byte(dies%8), 0)
				play(t, 1<<15, most, append(armed, 13, byte(dies), byte(at)))
			}
		}
	}
}

func TestKeptTails(t *testing.T) { // P5.2, P5.4
	records := texts("first", "", "the second one", "c")
	for _, most := range []int{1, 30, 1000} {
		for keep := range 60 {
			for dies := range 9 {
				d := disk.New(1000)
				l := open(t, d, most, 0)
				sure, sent := 0, 0
				d.Arm(dies)
				for sent < len(records) {
					_, e := l.Append(records[sent])
					if sent++; e != api.OK {
						break
					}
					if sent == 2 && l.Sync() == api.OK {
						sure = sent
					}
				}
				d.Crash(keep)
				l, got, e := Open(d, "p", most)
				if e != api.OK || len(got) < sure || len(got) > sent || !same(got, records[:len(got)]) || l.First() != 0 || l.Next() != uint64(len(got)) {
					t.Fatalf("most %d, kept %d, dead after %d: %q, %v; %d were safe, %d sent", most, keep, dies, got, e, sure, sent)
				}
				d.Crash()
				open(t, d, most, 0, got...)
			}
		}
	}
}

// roomy is a copy of b with spare room that holds other bytes.
func roomy(b []byte) []byte { return append(slices.Clone(b), 0, 1, 2, 255)[:len(b)] }

// fill writes over a list, its spare room too.
func fill(b []byte) {
	b = b[:cap(b)]
	for i := range b {
		b[i] = 77
	}
}

func TestMemory(t *testing.T) { // P5.6
	d := disk.New(1000)
	l := open(t, d, 100, 0)
	x, y := roomy([]byte("abc")), roomy([]byte("de"))
	list := [][]byte{x, y, []byte("behind")}
	if i, e := l.Append(list[:2]...); i != 0 || e != api.OK {
		t.Fatalf("Append = %d, %v", i, e)
	}
	if string(x[:7]) != "abc\x00\x01\x02\xff" || string(y[:6]) != "de\x00\x01\x02\xff" || string(list[2]) != "behind" {
		t.Errorf("Append changes its arguments: %q", list)
	}
	fill(x)
	fill(y)
	list[0], list[1] = nil, nil
	_, records, _ := Open(d, "p", 100)
	_, again, _ := Open(d, "p", 100)
	fill(records[0])
	if string(records[1]) != "de" || !same(again, texts("abc", "de")) {
		t.Errorf("Open: what is answered shares memory: %q, %q", records, again)
	}
	fill(records[1])
	if fill(again[1]); string(again[0]) != "abc" {
		t.Errorf("Open: records share memory: %q", again)
	}
	records[0], records[1] = nil, nil
	open(t, d, 100, 0, texts("abc", "de")...)
}

func TestMemoryOfPrefix(t *testing.T) { // P5.6
	d := disk.New(1000)
	b := []byte("p")
	l, _, _ := Open(d, unsafe.String(&b[0], 1), 1)
	b[0] = 'q'
	appends(t, l, 0, "a")
	appends(t, l, 1, "b")
	open(t, d, 1, 0, texts("a", "b")...)
}

func TestTwoLogs(t *testing.T) { // P5.6: what one log does changes no other one's state
	d := disk.New(1000)
	l := open(t, d, 1, 0)
	appends(t, l, 0, "a")
	appends(t, l, 1, "b")
	appends(t, l, 2, "c")
	twin := d.Twin()
	other := open(t, twin, 1, 0, texts("a", "b", "c")...)
	answers(t, "Drop", other.Drop(2), api.OK)
	appends(t, other, 3, "d")
	if l.First() != 0 || l.Next() != 3 {
		t.Errorf("First %d, Next %d", l.First(), l.Next())
	}
	appends(t, l, 3, "e")
	open(t, d, 1, 0, texts("a", "b", "c", "e")...)
	open(t, twin, 1, 2, texts("c", "d")...)
}

// FuzzOpen: as plainOpen says, whatever files there are.
func FuzzOpen(f *testing.F) { // P1, P5.2, P5.4
	f.Add("p0000000000000000", seals(texts("a", "b")...), "p0000000000000002", seals(texts("c")...), "p", 1)
	f.Add("p0000000000000000", seals(texts("a", "b")...)[:17], "p0000000000000001", seals(texts("c")...), "p", 0)
	f.Add("ffffffffffffffff", []byte{0}, "0000000000000000", []byte{}, "", -1)
	f.Fuzz(func(t *testing.T, one string, a []byte, two string, b []byte, prefix string, most int) {
		d := disk.New(1 << 20)
		d.Append(one, a)
		d.Append(two, b)
		before := files(d)
		first, want, left := plainOpen(before, prefix)
		l, got, e := Open(d, prefix, most)
		if most < 1 {
			if l != nil || len(got) != 0 || e != api.ErrArg {
				t.Fatalf("Open = %v, %q, %v", l, got, e)
			}
			left = before
		} else if e != api.OK || !same(got, want) || l.First() != first || l.Next() != first+uint64(len(want)) {
			t.Fatalf("Open = %q, %v; want %q from %d on", got, e, want, first)
		}
		if fmt.Sprint(files(d)) != fmt.Sprint(left) {
			t.Fatalf("Open leaves %q; want %q", files(d), left)
		}
	})
}

// FuzzPlay: as TestAnyCalls, with scripts that are looked for.
func FuzzPlay(f *testing.F) { // P1, P5.1 to P5.5
	f.Add([]byte{0, 2, 5, 8, 0, 0, 14, 3, 0, 0, 3, 7, 0, 1, 22, 10, 0, 0, 0, 2, 9, 11, 4, 0}, 1000, 20)
	f.Fuzz(func(t *testing.T, script []byte, room, most int) {
		play(t, max(min(room, 1<<15), 0), max(most, 1), script[:min(len(script), 3*100)])
	})
}
