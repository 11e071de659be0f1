package manifest

import (
	"bytes"
	"encoding/binary"
	"fmt"
	"maps"
	"math"
	"math/rand/v2"
	"slices"
	"testing"

	"caisson/api"
	"caisson/codec"
	"caisson/crc"
	"caisson/disk"
	"caisson/table"
	"caisson/wal"
)

// on is a file on a level.
func on(level int, num uint64, first, last string) File {
	return File{Num: num, Level: level, Meta: table.Meta{First: []byte(first), Last: []byte(last), Count: 2, Size: 300}}
}

// sameFile: are these alike, an empty list and nil too?
func sameFile(a, b File) bool {
	return a.Num == b.Num && a.Level == b.Level && a.Count == b.Count && a.Size == b.Size && bytes.Equal(a.First, b.First) && bytes.Equal(a.Last, b.Last)
}

func sameVersion(a, b Version) bool {
	return a.Next == b.Next && a.Seq == b.Seq && slices.EqualFunc(a.Files, b.Files, sameFile)
}

func sameEdit(a, b Edit) bool {
	return a.Reset == b.Reset && a.Seq == b.Seq && slices.Equal(a.Drop, b.Drop) && slices.EqualFunc(a.Add, b.Add, sameFile)
}

// plainRight is Right, by the words of the document: of each two files it is asked how they stand.
func plainRight(v Version) bool {
	for i, f := range v.Files {
		if f.Num >= v.Next || f.Level < 0 || f.Level > 3 || string(f.First) > string(f.Last) {
			return false
		}
		for _, g := range v.Files[i+1:] {
			ordered := f.Level < g.Level || f.Level == g.Level && (f.Level == 0 && f.Num > g.Num || f.Level > 0 && string(f.First) < string(g.First))
			touch := f.Level == g.Level && f.Level != 0 && string(f.Last) >= string(g.First) && string(g.Last) >= string(f.First)
			if !ordered || touch || f.Num == g.Num {
				return false
			}
		}
	}
	return true
}

// plainApply is Apply, by the words of the document.
func plainApply(v Version, e Edit) (Version, api.Errno) {
	if !plainRight(v) {
		return Version{}, 3
	}
	if e.Reset {
		v = Version{}
	}
	files := slices.Clone(v.Files)
	find := func(num uint64) int { return slices.IndexFunc(files, func(f File) bool { return f.Num == num }) }
	for _, num := range e.Drop {
		i := find(num)
		if i < 0 {
			return Version{}, 6
		}
		files = slices.Delete(files, i, i+1)
	}
	next := v.Next
	for _, f := range e.Add {
		if find(f.Num) >= 0 {
			return Version{}, 7
		}
		i := 0
		for i < len(files) && (files[i].Level < f.Level || files[i].Level == f.Level && (f.Level == 0 && files[i].Num > f.Num || f.Level != 0 && string(files[i].First) < string(f.First))) {
			i++
		}
		files = slices.Insert(files, i, f)
		if f.Num >= next {
			next = f.Num + 1
		}
	}
	out := Version{Files: files, Next: next, Seq: e.Seq}
	if !plainRight(out) {
		return Version{}, 3
	}
	if e.Seq < v.Seq {
		return Version{}, 13
	}
	return out, 0
}

// applies looks whether Apply answers what the plain one does.
func applies(t *testing.T, v Version, e Edit) (Version, api.Errno) {
	t.Helper()
	got, err := Apply(v, e)
	want, wantErr := plainApply(v, e)
	if err != wantErr || !sameVersion(got, want) {
		t.Fatalf("Apply(%v, %v) = %v, %v; want %v, %v", v, e, got, err, want, wantErr)
	}
	if err == api.OK && !Right(got) {
		t.Fatalf("Apply(%v, %v) = %v isn't right", v, e, got)
	}
	return got, err
}

// frame are parts, each with its length ahead.
func frame(parts ...[]byte) []byte {
	var out []byte
	for _, p := range parts {
		out = append(binary.AppendUvarint(out, uint64(len(p))), p...)
	}
	return out
}

// u are numbers, one behind the other.
func u(nums ...uint64) []byte {
	var out []byte
	for _, n := range nums {
		out = binary.AppendUvarint(out, n)
	}
	return out
}

// plainText is a text with its end.
func plainText(b []byte) []byte {
	return append(bytes.ReplaceAll(b, []byte{0}, []byte{0, 255}), 0, 1)
}

// plainEncode is Encode, by the words of the document.
func plainEncode(e Edit) []byte {
	head := byte(0)
	if e.Reset {
		head = 1
	}
	parts := [][]byte{append([]byte{head}, u(e.Seq)...), u(e.Drop...)}
	for _, f := range e.Add {
		parts = append(parts, slices.Concat(u(f.Num, uint64(f.Level), uint64(f.Count), uint64(f.Size)), plainText(f.First), plainText(f.Last)))
	}
	return frame(parts...)
}

// plainDecode is Decode, by the words of the document: what is wrong ends it.
func plainDecode(b []byte) (e Edit, err api.Errno) {
	defer func() {
		if wrong, ok := recover().(api.Errno); ok {
			e, err = Edit{}, wrong
		}
	}()
	must := func(err api.Errno) {
		if err != api.OK {
			panic(err)
		}
	}
	demand := func(ok bool) {
		if !ok {
			panic(api.ErrForm)
		}
	}
	parts, err := codec.Parts(b)
	must(err)
	demand(len(parts) >= 2 && len(parts[0]) > 0 && parts[0][0] <= 1)
	e.Reset = parts[0][0] == 1
	seq, at, err := codec.GetU(parts[0], 1)
	must(err)
	demand(at == len(parts[0]))
	e.Seq = seq
	for at := 0; at < len(parts[1]); {
		n, next, err := codec.GetU(parts[1], at)
		must(err)
		e.Drop, at = append(e.Drop, n), next
	}
	for _, part := range parts[2:] {
		var nums [4]uint64
		var keys [2][]byte
		at := 0
		for i := range nums {
			nums[i], at, err = codec.GetU(part, at)
			must(err)
		}
		for i := range keys {
			keys[i], at, err = codec.GetOrdText(part, at)
			must(err)
		}
		demand(at == len(part))
		e.Add = append(e.Add, File{Num: nums[0], Level: int(nums[1]), Meta: table.Meta{Count: int(nums[2]), Size: int(nums[3]), First: keys[0], Last: keys[1]}})
	}
	return e, api.OK
}

// decodes looks whether Decode answers what the plain one does, and whether Encode undoes it; has it an edit?
func decodes(t *testing.T, b []byte) bool {
	t.Helper()
	got, err := Decode(b)
	want, wantErr := plainDecode(b)
	if err != wantErr || !sameEdit(got, want) {
		t.Fatalf("Decode(%v) = %v, %v; want %v, %v", b, got, err, want, wantErr)
	}
	if again := Encode(got); err == api.OK && !bytes.Equal(again, b) {
		t.Fatalf("Decode(%v) = %v, which is encoded as %v", b, got, again)
	}
	return err == api.OK
}

// files are all files of a disk, with their bytes.
func files(d *disk.Disk) map[string]string {
	out := map[string]string{}
	for _, name := range d.List("") {
		b, _ := d.Read(name)
		out[name] = string(b)
	}
	return out
}

// killed is a disk that is dead.
func killed(d *disk.Disk) *disk.Disk {
	d = d.Twin()
	d.Arm(0)
	d.Append("x", nil)
	return d
}

// logged is a disk with a log of these records, each in a segment of its own, all safe.
func logged(t *testing.T, records ...[]byte) *disk.Disk {
	t.Helper()
	d := disk.New(1 << 23)
	l, _, e := wal.Open(d, "xm.", 1)
	for _, r := range records {
		if _, err := l.Append(r); err != api.OK {
			t.Fatalf("wal.Append = %v", err)
		}
	}
	if err := l.Sync(); e != api.OK || err != api.OK {
		t.Fatalf("wal.Open = %v; Sync = %v", e, err)
	}
	return d
}

// edits are the bytes of edits.
func edits(list ...Edit) [][]byte {
	var out [][]byte
	for _, e := range list {
		out = append(out, plainEncode(e))
	}
	return out
}

// opens opens the manifest of a disk, which must have this version.
func opens(t *testing.T, d *disk.Disk, want Version) *Manifest {
	t.Helper()
	m, e := Open(d, "x")
	if e != api.OK || m == nil || !sameVersion(m.Version, want) {
		t.Fatalf("Open = %v, %v; want %v", m, e, want)
	}
	return m
}

// refused looks whether no manifest is opened, with this error.
func refused(t *testing.T, what string, d *disk.Disk, want api.Errno) {
	t.Helper()
	if m, e := Open(d, "x"); m != nil || e != want {
		t.Errorf("%s: Open = %v, %v; want %v", what, m, e, want)
	}
}

// answers looks at what a call answered.
func answers(t *testing.T, call string, got, want api.Errno) {
	t.Helper()
	if got != want {
		t.Fatalf("%s = %v; want %v", call, got, want)
	}
}

// has looks whether a manifest has a version, also when it is opened again, behind a crash too.
func has(t *testing.T, m *Manifest, d *disk.Disk, want Version) {
	t.Helper()
	if !sameVersion(m.Version, want) || !Right(m.Version) {
		t.Fatalf("the manifest has %v; want %v", m.Version, want)
	}
	if whole := m.Whole(); !sameEdit(whole, Edit{Reset: true, Add: want.Files, Seq: want.Seq}) {
		t.Fatalf("Whole = %v; the version is %v", whole, want)
	}
	twin := d.Twin()
	twin.Crash()
	opens(t, twin, want)
	opens(t, twin, want)
}

func TestExamples(t *testing.T) { // P12.1
	v, e := applies(t, Version{}, Edit{Add: []File{on(0, 3, "a", "c")}, Seq: 5})
	if e != api.OK || !sameVersion(v, Version{Files: []File{on(0, 3, "a", "c")}, Next: 4, Seq: 5}) {
		t.Errorf("Apply = %v, %v", v, e)
	}
	for _, c := range []struct {
		e    Edit
		want api.Errno
	}{
		{Edit{Add: []File{on(0, 3, "a", "c")}, Seq: 5}, api.ErrThere}, {Edit{Drop: []uint64{9}, Seq: 5}, api.ErrNone}, {Edit{Seq: 4}, api.ErrOld}, {Edit{Add: []File{on(1, 4, "c", "a")}, Seq: 5}, api.ErrForm},
		{Edit{Add: []File{on(1, 4, "a", "c"), on(1, 5, "c", "d")}, Seq: 5}, api.ErrForm}, {Edit{Add: []File{on(0, 4, "a", "c"), on(0, 5, "c", "d")}, Seq: 5}, api.OK},
	} {
		if got, e := applies(t, v, c.e); e != c.want || e != api.OK && !sameVersion(got, Version{}) {
			t.Errorf("Apply of %v = %v, %v; want %v", c.e, got, e, c.want)
		}
	}
}

func TestRight(t *testing.T) { // P12.1
	const many = math.MaxUint64
	for i, c := range []struct {
		v    Version
		want bool
	}{
		{Version{}, true}, {Version{Next: many, Seq: many}, true}, {Version{Files: []File{}, Seq: 7}, true},
		{Version{Files: []File{on(0, 0, "", "")}, Next: 1}, true}, {Version{Files: []File{on(3, 0, "a", "a")}, Next: 1}, true}, {Version{Files: []File{on(0, many-1, "a", "b")}, Next: many}, true},
		{Version{Files: []File{on(0, 0, "", "")}}, false}, {Version{Files: []File{on(0, 5, "a", "b")}, Next: 5}, false}, {Version{Files: []File{on(0, many, "a", "b")}, Next: many}, false}, {Version{Files: []File{on(0, many, "a", "b")}}, false}, // not below Next
		{Version{Files: []File{on(4, 1, "a", "b")}, Next: 9}, false}, {Version{Files: []File{on(-1, 1, "a", "b")}, Next: 9}, false}, {Version{Files: []File{on(math.MaxInt, 1, "a", "b")}, Next: 9}, false}, {Version{Files: []File{on(math.MinInt, 1, "a", "b")}, Next: 9}, false}, // no level
		{Version{Files: []File{on(0, 1, "b", "a")}, Next: 9}, false}, {Version{Files: []File{on(2, 1, "ab", "a")}, Next: 9}, false}, {Version{Files: []File{on(2, 1, "a", "")}, Next: 9}, false}, // First above Last
		{Version{Files: []File{on(0, 3, "a", "c"), on(0, 2, "b", "d")}, Next: 9}, true}, {Version{Files: []File{on(0, 2, "a", "a"), on(0, 3, "b", "b")}, Next: 9}, false}, {Version{Files: []File{on(0, 2, "a", "a"), on(0, 2, "b", "b")}, Next: 9}, false},
		{Version{Files: []File{on(1, 3, "a", "b"), on(1, 4, "c", "d")}, Next: 9}, true}, {Version{Files: []File{on(1, 4, "a", "b"), on(1, 3, "c", "d")}, Next: 9}, true}, {Version{Files: []File{on(1, 3, "c", "d"), on(1, 4, "a", "b")}, Next: 9}, false},
		{Version{Files: []File{on(1, 3, "a", "c"), on(1, 4, "c", "d")}, Next: 9}, false}, {Version{Files: []File{on(3, 3, "a", "z"), on(3, 4, "c", "d")}, Next: 9}, false}, {Version{Files: []File{on(2, 3, "a", "b"), on(2, 4, "a", "c")}, Next: 9}, false}, {Version{Files: []File{on(2, 3, "a", "c"), on(2, 4, "a", "b")}, Next: 9}, false},
		{Version{Files: []File{on(2, 3, "a", "b"), on(2, 4, "b\x00", "c")}, Next: 9}, true}, {Version{Files: []File{on(2, 3, "", ""), on(2, 4, "\x00", "c")}, Next: 9}, true}, {Version{Files: []File{on(2, 3, "", ""), on(2, 4, "", "")}, Next: 9}, false},
		{Version{Files: []File{on(0, 3, "a", "z"), on(1, 4, "a", "z"), on(2, 5, "a", "z"), on(3, 6, "a", "z")}, Next: 9}, true}, {Version{Files: []File{on(1, 3, "a", "b"), on(0, 4, "c", "d")}, Next: 9}, false}, {Version{Files: []File{on(3, 3, "a", "b"), on(2, 4, "c", "d")}, Next: 9}, false},
		{Version{Files: []File{on(0, 3, "a", "b"), on(1, 3, "a", "b")}, Next: 9}, false}, {Version{Files: []File{on(0, 3, "a", "b"), on(0, 2, "a", "b"), on(1, 1, "a", "b"), on(3, 3, "a", "b")}, Next: 9}, false}, {Version{Files: []File{on(1, 3, "a", "b"), on(1, 5, "c", "d"), on(1, 3, "e", "f")}, Next: 9}, false}, // one Num
		{Version{Files: []File{on(1, 1, "a", "b"), on(1, 2, "c", "d"), on(1, 3, "e", "f"), on(1, 4, "f", "g")}, Next: 9}, false}, {Version{Files: []File{on(1, 1, "a", "b"), on(1, 2, "c", "d"), on(1, 9, "e", "f")}, Next: 9}, false},
	} {
		if got := Right(c.v); got != c.want || plainRight(c.v) != c.want {
			t.Errorf("case %d: Right(%v) = %v, by the plain reading %v; want %v", i, c.v, got, plainRight(c.v), c.want)
		}
	}
	long := on(1, 1, string(make([]byte, 3000)), string(bytes.Repeat([]byte{255}, 3000))) // no length is asked for, no Count and no Size
	long.Count, long.Size = -5, math.MinInt
	if !Right(Version{Files: []File{long}, Next: 2}) {
		t.Errorf("Right asks for more than the document")
	}
}

func TestApply(t *testing.T) { // P12.1
	const many = math.MaxUint64
	v := Version{Files: []File{on(0, 7, "a", "z"), on(0, 2, "c", "d"), on(1, 3, "b", "d"), on(1, 1, "f", "h"), on(3, 4, "a", "z")}, Next: 20, Seq: 9}
	wrong := Version{Files: []File{on(1, 3, "b", "a")}, Next: 20, Seq: 9}
	for i, c := range []struct {
		v    Version
		e    Edit
		want api.Errno
		next uint64
		nums []uint64
	}{
		{v, Edit{Seq: 9}, api.OK, 20, []uint64{7, 2, 3, 1, 4}}, {v, Edit{Seq: many}, api.OK, 20, []uint64{7, 2, 3, 1, 4}}, {v, Edit{Reset: true}, api.OK, 0, nil}, {v, Edit{Reset: true, Seq: 8}, api.OK, 0, nil},
		{v, Edit{Add: []File{on(0, 19, "a", "b"), on(0, 0, "", ""), on(0, 5, "z", "z")}, Seq: 9}, api.OK, 20, []uint64{19, 7, 5, 2, 0, 3, 1, 4}}, {v, Edit{Add: []File{on(1, 20, "e", "e")}, Seq: 9}, api.OK, 21, []uint64{7, 2, 3, 20, 1, 4}}, {v, Edit{Add: []File{on(2, many-1, "a", "b"), on(2, 30, "", "")}, Seq: 9}, api.OK, many, []uint64{7, 2, 3, 1, 30, many - 1, 4}},
		{v, Edit{Drop: []uint64{7, 4, 3, 2, 1}, Seq: 10}, api.OK, 20, nil}, {v, Edit{Drop: []uint64{2}, Add: []File{on(2, 2, "c", "d")}, Seq: 9}, api.OK, 20, []uint64{7, 3, 1, 2, 4}}, {v, Edit{Drop: []uint64{3, 1}, Add: []File{on(1, 8, "d", "g")}, Seq: 9}, api.OK, 20, []uint64{7, 2, 8, 4}},
		{v, Edit{Reset: true, Add: []File{on(1, 3, "b", "d"), on(0, 2, "", "")}, Seq: 1}, api.OK, 4, []uint64{2, 3}}, {v, Edit{Reset: true, Add: []File{on(0, 0, "", "")}}, api.OK, 1, []uint64{0}},
		{v, Edit{Drop: []uint64{2, 2}, Seq: 9}, api.ErrNone, 0, nil}, {v, Edit{Drop: []uint64{2, 9, 3}, Seq: 9}, api.ErrNone, 0, nil}, {v, Edit{Reset: true, Drop: []uint64{2}, Seq: 9}, api.ErrNone, 0, nil}, {Version{}, Edit{Drop: []uint64{0}}, api.ErrNone, 0, nil},
		{v, Edit{Drop: []uint64{5}, Add: []File{on(0, 5, "a", "b")}, Seq: 9}, api.ErrNone, 0, nil}, // it is added behind that
		{v, Edit{Add: []File{on(2, 7, "a", "b")}, Seq: 9}, api.ErrThere, 0, nil}, {v, Edit{Add: []File{on(2, 9, "a", "b"), on(0, 9, "a", "b")}, Seq: 9}, api.ErrThere, 0, nil}, {v, Edit{Drop: []uint64{3}, Add: []File{on(1, 3, "b", "c"), on(2, 3, "b", "c")}, Seq: 9}, api.ErrThere, 0, nil}, {v, Edit{Reset: true, Add: []File{on(1, 3, "b", "c"), on(0, 3, "b", "c")}, Seq: 9}, api.ErrThere, 0, nil}, {v, Edit{Add: []File{on(2, many, "a", "b"), on(1, many, "a", "b")}, Seq: 9}, api.ErrThere, 0, nil},
		{v, Edit{Add: []File{on(0, many, "a", "b")}, Seq: 9}, api.ErrForm, 0, nil}, {Version{}, Edit{Reset: true, Add: []File{on(0, many, "a", "b")}}, api.ErrForm, 0, nil}, // no Next is above it
		{v, Edit{Add: []File{on(4, 9, "a", "b")}, Seq: 9}, api.ErrForm, 0, nil}, {v, Edit{Add: []File{on(-1, 9, "a", "b")}, Seq: 9}, api.ErrForm, 0, nil}, {v, Edit{Add: []File{on(0, 9, "b", "a")}, Seq: 9}, api.ErrForm, 0, nil}, {v, Edit{Add: []File{on(1, 9, "h", "i")}, Seq: 9}, api.ErrForm, 0, nil}, {v, Edit{Add: []File{on(1, 9, "a", "z")}, Seq: 9}, api.ErrForm, 0, nil}, {v, Edit{Drop: []uint64{3}, Add: []File{on(1, 9, "e", "f")}, Seq: 9}, api.ErrForm, 0, nil},
		{v, Edit{Seq: 8}, api.ErrOld, 0, nil}, {v, Edit{Drop: []uint64{2}, Add: []File{on(2, 9, "a", "b")}}, api.ErrOld, 0, nil},
		// of several
		{wrong, Edit{Seq: 9}, api.ErrForm, 0, nil}, {wrong, Edit{Reset: true}, api.ErrForm, 0, nil}, {wrong, Edit{Drop: []uint64{3}, Seq: 9}, api.ErrForm, 0, nil}, {wrong, Edit{Drop: []uint64{5}, Seq: 2}, api.ErrForm, 0, nil},
		{v, Edit{Drop: []uint64{5}, Add: []File{on(2, 7, "a", "b"), on(9, 8, "b", "a")}, Seq: 1}, api.ErrNone, 0, nil}, {v, Edit{Add: []File{on(2, 7, "a", "b"), on(9, 8, "b", "a")}, Seq: 1}, api.ErrThere, 0, nil}, {v, Edit{Add: []File{on(9, 8, "b", "a")}, Seq: 1}, api.ErrForm, 0, nil},
	} {
		got, e := applies(t, c.v, c.e)
		want := Version{Next: c.next, Seq: c.e.Seq}
		if c.want != api.OK {
			want = Version{}
		}
		var nums []uint64
		for _, f := range got.Files {
			nums = append(nums, f.Num)
		}
		if e != c.want || got.Next != want.Next || got.Seq != want.Seq || !slices.Equal(nums, c.nums) {
			t.Errorf("case %d: Apply(%v) = %v, %v; want %v, %v, %v", i, c.e, got, e, c.want, c.next, c.nums)
		}
	}
}

// anyFile is one of a few files, most of them such as a version may have.
func anyFile(r *rand.Rand) File {
	first, last := r.IntN(8), r.IntN(8)
	if r.IntN(8) > 0 {
		last = min(first+r.IntN(3), 7)
	}
	f := File{Num: r.Uint64N(9), Level: r.IntN(4), Meta: table.Meta{First: []byte("abcdefgh")[first : first+1], Last: []byte("abcdefgh")[last : last+1], Count: r.IntN(5) - 1, Size: r.IntN(500)}}
	switch r.IntN(40) {
	case 0:
		f.Level = []int{-1, 4, 5, math.MaxInt, math.MinInt}[r.IntN(5)]
	case 1:
		f.Num = math.MaxUint64 - r.Uint64N(2)
	}
	return f
}

// anyEdit is an edit, most often such as a version takes.
func anyEdit(r *rand.Rand, v Version) Edit {
	e := Edit{Reset: r.IntN(12) == 0, Seq: v.Seq + r.Uint64N(3)}
	for range r.IntN(3) {
		e.Add = append(e.Add, anyFile(r))
	}
	for _, f := range v.Files {
		if !e.Reset && r.IntN(3) == 0 {
			e.Drop = append(e.Drop, f.Num)
		}
	}
	switch r.IntN(20) {
	case 0:
		e.Drop = append(e.Drop, r.Uint64N(9))
	case 1:
		e.Seq -= min(e.Seq, 2)
	case 2:
		e.Reset = true
	}
	return e
}

func TestRandomEdits(t *testing.T) { // P12.1, P12.2
	counts := map[api.Errno]int{}
	r := rand.New(rand.NewPCG(12, 1))
	for range 300 {
		var v Version
		for range 100 {
			e := anyEdit(r, v)
			b := Encode(e)
			if back, err := Decode(b); err != api.OK || !sameEdit(back, e) || !bytes.Equal(b, plainEncode(e)) {
				t.Fatalf("Encode(%v) = %v; Decode of that = %v, %v", e, b, back, err)
			}
			next, err := applies(t, v, e)
			counts[err]++
			if err == api.OK {
				v = next
			}
		}
	}
	for _, e := range []api.Errno{api.OK, api.ErrForm, api.ErrNone, api.ErrThere, api.ErrOld} {
		if counts[e] < 300 {
			t.Errorf("%v was answered %d times: %v", e, counts[e], counts)
		}
	}
}

func TestRandomVersions(t *testing.T) { // P12.1: those that aren't right, too
	r := rand.New(rand.NewPCG(12, 2))
	right := 0
	for range 100000 {
		v := Version{Next: r.Uint64N(12), Seq: r.Uint64N(4)}
		for range r.IntN(4) {
			v.Files = append(v.Files, anyFile(r))
		}
		if r.IntN(2) == 0 {
			slices.SortFunc(v.Files, func(a, b File) int { return a.Level - b.Level })
		}
		if Right(v) != plainRight(v) {
			t.Fatalf("Right(%v) = %v", v, Right(v))
		}
		if Right(v) {
			right++
		}
		applies(t, v, anyEdit(r, v))
	}
	if right < 10000 || right > 90000 {
		t.Errorf("%d are right", right)
	}
}

func TestManyFiles(t *testing.T) { // P1, P12.1
	const many = 20000
	var e Edit
	for i := range uint64(many) {
		key := binary.BigEndian.AppendUint32(nil, uint32(i*7919%many))
		e.Add = append(e.Add, File{Num: i, Level: int(i % 4), Meta: table.Meta{First: key, Last: key}})
	}
	v, err := Apply(Version{}, e)
	if err != api.OK || len(v.Files) != many || v.Next != many || !Right(v) {
		t.Fatalf("Apply of many = %d files, %v", len(v.Files), err)
	}
	var drop Edit
	for i := range uint64(many - 1) {
		drop.Drop = append(drop.Drop, many-1-i)
	}
	if v, err = Apply(v, drop); err != api.OK || len(v.Files) != 1 || v.Files[0].Num != 0 || v.Next != many {
		t.Errorf("Apply of many = %d files, %v", len(v.Files), err)
	}
}

func TestEncodeByHand(t *testing.T) { // P12.2
	odd := File{Num: math.MaxUint64, Level: -1, Meta: table.Meta{First: []byte{0, 7}, Count: math.MinInt, Size: math.MaxInt}}
	top := []byte{255, 255, 255, 255, 255, 255, 255, 255, 255, 1}
	for _, c := range []struct {
		e    Edit
		want []byte
	}{
		{Edit{}, []byte{2, 0, 0, 0}}, {Edit{Reset: true, Seq: 300}, []byte{3, 1, 172, 2, 0}}, {Edit{Drop: []uint64{5, 128, 0}, Seq: 127}, []byte{2, 0, 127, 4, 5, 128, 1, 0}},
		{Edit{Add: []File{on(1, 3, "a", "bc")}, Seq: 5}, []byte{2, 0, 5, 0, 12, 3, 1, 2, 172, 2, 97, 0, 1, 98, 99, 0, 1}},
		{Edit{Reset: true, Add: []File{on(0, 1, "", ""), odd}, Drop: []uint64{9}}, slices.Concat([]byte{2, 1, 0, 1, 9, 9, 1, 0, 2, 172, 2, 0, 1, 0, 1, 46}, top, top, []byte{128, 128, 128, 128, 128, 128, 128, 128, 128, 1}, []byte{255, 255, 255, 255, 255, 255, 255, 255, 127}, []byte{0, 255, 7, 0, 1, 0, 1})},
	} {
		if got := Encode(c.e); !bytes.Equal(got, c.want) || !bytes.Equal(plainEncode(c.e), c.want) {
			t.Errorf("Encode(%v) = %v; want %v", c.e, got, c.want)
		}
		if got, e := Decode(c.want); e != api.OK || !sameEdit(got, c.e) {
			t.Errorf("Decode(%v) = %v, %v; want %v", c.want, got, e, c.e)
		}
	}
}

func TestDecodeErrors(t *testing.T) { // P12.2
	file := slices.Concat(u(3, 1, 2, 300), plainText([]byte("a")), plainText([]byte("b")))
	for what, c := range map[string]struct {
		b    []byte
		want api.Errno
	}{
		"nothing": {nil, api.ErrForm}, "one part": {frame([]byte{0, 5}), api.ErrForm}, "an empty part": {frame(nil), api.ErrForm}, "an empty first part": {frame(nil, nil), api.ErrForm}, "an empty first part of many": {frame(nil, nil, file), api.ErrForm},
		"a length that ends": {[]byte{128}, api.ErrEnd}, "a long length": {[]byte{130, 0, 0, 5}, api.ErrForm}, "a part that ends": {[]byte{2, 0}, api.ErrEnd}, "the second part ends": {[]byte{2, 0, 5, 1}, api.ErrEnd}, "a file's part ends": {append(frame([]byte{2, 5}, nil), 1), api.ErrEnd}, // the frame comes first, though it says 2
		"2 ahead": {frame([]byte{2, 5}, nil), api.ErrForm}, "255 ahead": {frame([]byte{255}, nil), api.ErrForm}, "no Seq": {frame([]byte{0}, nil), api.ErrEnd}, "no Seq, with Reset": {frame([]byte{1}, nil), api.ErrEnd}, "a Seq that ends": {frame([]byte{0, 128}, nil), api.ErrEnd}, "a long Seq": {frame([]byte{0, 128, 0}, nil), api.ErrForm}, "a great Seq": {frame([]byte{0, 255, 255, 255, 255, 255, 255, 255, 255, 255, 2}, nil), api.ErrForm}, "more behind the Seq": {frame([]byte{0, 5, 0}, nil), api.ErrForm},
		"a number that ends": {frame([]byte{0, 5}, []byte{7, 128}), api.ErrEnd}, "a long number": {frame([]byte{0, 5}, []byte{7, 128, 0}), api.ErrForm}, "a great number": {frame([]byte{0, 5}, []byte{255, 255, 255, 255, 255, 255, 255, 255, 255, 2}), api.ErrForm},
		"an empty file": {frame([]byte{0, 5}, nil, nil), api.ErrEnd}, "a file behind an empty one": {frame([]byte{0, 5}, nil, nil, file), api.ErrEnd}, "an empty file behind one": {frame([]byte{0, 5}, nil, file, nil), api.ErrEnd}, "more behind a file": {frame([]byte{0, 5}, nil, append(slices.Clone(file), 0)), api.ErrForm}, "two files in a part": {frame([]byte{0, 5}, nil, append(slices.Clone(file), file...)), api.ErrForm},
		"a long Level": {frame([]byte{0, 5}, nil, []byte{3, 129, 0, 2, 2, 0, 1, 0, 1}), api.ErrForm}, "a great Size": {frame([]byte{0, 5}, nil, []byte{3, 1, 2, 255, 255, 255, 255, 255, 255, 255, 255, 255, 2, 0, 1, 0, 1}), api.ErrForm}, "a text with 0 2": {frame([]byte{0, 5}, nil, []byte{3, 1, 2, 2, 0, 2, 0, 1}), api.ErrForm}, "a last text with 0 0": {frame([]byte{0, 5}, nil, []byte{3, 1, 2, 2, 0, 1, 0, 0}), api.ErrForm},
		// the first thing that is wrong
		"a Seq that ends ahead of a long number": {frame([]byte{0, 128}, []byte{128, 0}), api.ErrEnd}, "a long Seq ahead of a number that ends": {frame([]byte{0, 128, 0}, []byte{128}), api.ErrForm}, "2 ahead of no Seq": {frame([]byte{2}, []byte{128}), api.ErrForm}, "a number that ends ahead of a bad file": {frame([]byte{0, 5}, []byte{128}, []byte{3, 129, 0}), api.ErrEnd}, "a file that ends ahead of a bad one": {frame([]byte{0, 5}, nil, file[:4], []byte{3, 129, 0}), api.ErrEnd}, "a bad file ahead of one that ends": {frame([]byte{0, 5}, nil, []byte{3, 129, 0}, file[:4]), api.ErrForm}, "a number that ends ahead of more": {frame([]byte{0, 5}, nil, file[:7], append(slices.Clone(file), 0)), api.ErrEnd},
	} {
		if got, e := Decode(c.b); e != c.want || !sameEdit(got, Edit{}) {
			t.Errorf("%s: Decode(%v) = %v, %v; want %v", what, c.b, got, e, c.want)
		}
		decodes(t, c.b)
	}
	for size := range file {
		if got, e := Decode(frame([]byte{0, 5}, nil, file[:size])); e != api.ErrEnd || !sameEdit(got, Edit{}) {
			t.Errorf("a file of %d bytes: Decode = %v, %v", size, got, e)
		}
	}
}

func TestSpoiltEdits(t *testing.T) { // P12.2
	inner := on(1, 3, "a\x00", "bc")
	inner.Count, inner.Size = -1, 200
	fine := 0
	for _, e := range []Edit{{}, {Reset: true, Seq: 300, Add: []File{on(0, 130, "", ""), inner}}, {Seq: 5, Drop: []uint64{7, 300, 1}, Add: []File{inner}}} {
		b := plainEncode(e)
		for i := range b {
			for c := range 256 {
				spoilt := slices.Clone(b)
				spoilt[i] = byte(c)
				if decodes(t, spoilt) {
					fine++
				}
			}
			for j := i + 1; j <= len(b); j++ {
				decodes(t, slices.Delete(slices.Clone(b), i, j))
			}
			for _, c := range []byte{0, 1, 2, 127, 128, 255} {
				decodes(t, slices.Insert(slices.Clone(b), i, c))
			}
		}
	}
	if fine < 1000 {
		t.Errorf("%d are edits", fine)
	}
}

func TestCommits(t *testing.T) { // P12.3
	d := disk.New(10000)
	m := opens(t, d, Version{})
	if len(d.List("")) != 0 {
		t.Errorf("Open has written %q", files(d))
	}
	has(t, m, d, Version{})
	var v Version
	var all [][]byte
	for _, e := range []Edit{
		{Add: []File{on(0, 0, "a", "c"), on(0, 1, "b", "")}, Seq: 1}, // it isn't right
		{Add: []File{on(0, 0, "a", "c")}, Seq: 1}, {Add: []File{on(0, 0, "a", "c")}, Seq: 1}, {Add: []File{on(0, 1, "b", "d")}, Seq: 3}, {Drop: []uint64{2}, Seq: 3}, {Seq: 2}, {Drop: []uint64{0, 1}, Add: []File{on(1, 2, "a", "d"), on(1, 5, "e", "f")}, Seq: 3},
		{Seq: 7}, {Reset: true, Add: []File{on(3, 1, "x", "y")}, Seq: 2}, {Drop: []uint64{5}, Seq: 9}, {Add: []File{on(0, 9, "", "\xff")}, Seq: 2}, {Reset: true}, {Add: []File{on(2, 0, "a", "a")}},
	} {
		want, err := plainApply(v, e)
		was := files(d)
		if got := m.Commit(e); got != err {
			t.Fatalf("Commit(%v) = %v; want %v", e, got, err)
		}
		if err == api.OK {
			v, all = want, append(all, plainEncode(e))
		} else if !maps.Equal(files(d), was) {
			t.Errorf("Commit(%v) that answers %v has changed the disk", e, err)
		}
		has(t, m, d, v)
		d.Crash()
		if _, records, e := wal.Open(d.Twin(), "xm.", 1); e != api.OK || !slices.EqualFunc(records, all, bytes.Equal) {
			t.Fatalf("the log has %q, %v; want %q", records, e, all)
		}
	}
	if len(all) != 8 {
		t.Errorf("%d edits were committed", len(all))
	}
}

func TestWholeAndTidy(t *testing.T) { // P12.3
	d := disk.New(10000)
	m := opens(t, d, Version{})
	answers(t, "Tidy of nothing", m.Tidy(), api.OK)
	has(t, m, d, Version{})
	answers(t, "Commit", m.Commit(Edit{Add: []File{on(0, 4, "a", "c"), on(1, 9, "d", "e")}, Seq: 5}), api.OK)
	answers(t, "Commit", m.Commit(Edit{Drop: []uint64{9}, Add: []File{on(1, 2, "a", "b")}, Seq: 6}), api.OK)
	v := Version{Files: []File{on(0, 4, "a", "c"), on(1, 2, "a", "b")}, Next: 10, Seq: 6}
	has(t, m, d, v)
	whole := Edit{Reset: true, Add: v.Files, Seq: 6}
	v.Next = 5 // one above 4: that there was a 9 is said no more
	for range 3 {
		answers(t, "Tidy", m.Tidy(), api.OK)
		has(t, m, d, v)
		names := d.List("")
		if _, records, e := wal.Open(d.Twin(), "xm.", 1); len(names) != 1 || e != api.OK || !slices.EqualFunc(records, edits(whole), bytes.Equal) {
			t.Errorf("Tidy leaves %q: %q, %v", names, records, e)
		}
	}
	answers(t, "Commit", m.Commit(Edit{Drop: []uint64{4, 2}, Seq: 8}), api.OK)
	has(t, m, d, Version{Next: 5, Seq: 8})
	m = opens(t, d, Version{Next: 5, Seq: 8})
	answers(t, "Tidy", m.Tidy(), api.OK)
	has(t, m, d, Version{Seq: 8})
	if want := frameOfLog(Edit{Reset: true, Seq: 8}); d.Used() != len(want) {
		t.Errorf("Tidy leaves %d bytes; want %d", d.Used(), len(want))
	}
	answers(t, "Commit", m.Commit(Edit{Add: []File{on(0, 0, "", "")}, Seq: 8}), api.OK)
	has(t, m, d, Version{Files: []File{on(0, 0, "", "")}, Next: 1, Seq: 8})
}

// frameOfLog are the bytes of a log's segment with these edits.
func frameOfLog(list ...Edit) []byte {
	var out []byte
	for _, b := range edits(list...) {
		sealed, _ := crc.Seal(b)
		out = append(out, sealed...)
	}
	return out
}

func TestOpen(t *testing.T) { // P12.3
	a := Edit{Add: []File{on(0, 0, "a", "c")}, Seq: 1}
	b := Edit{Drop: []uint64{0}, Add: []File{on(1, 1, "a", "c")}, Seq: 2}
	begun := Edit{Reset: true, Add: []File{on(2, 0, "x", "y")}, Seq: 1}
	junk := []byte("junk")
	for what, c := range map[string]struct {
		records [][]byte
		want    Version
	}{
		"none": {nil, Version{}}, "one": {edits(a), Version{Files: a.Add, Next: 1, Seq: 1}}, "two": {edits(a, b), Version{Files: b.Add, Next: 2, Seq: 2}}, "Reset first": {edits(begun, b), Version{Files: b.Add, Next: 2, Seq: 2}}, "Reset last": {edits(a, b, begun), Version{Files: begun.Add, Next: 1, Seq: 1}}, "two with Reset": {edits(a, begun, begun), Version{Files: begun.Add, Next: 1, Seq: 1}}, "Reset alone": {edits(Edit{Reset: true, Seq: 3}), Version{Seq: 3}},
		"what can't be applied, ahead of Reset": {edits(b, b, begun), Version{Files: begun.Add, Next: 1, Seq: 1}}, "no edit, ahead of Reset": {append([][]byte{nil, junk}, edits(begun, b)...), Version{Files: b.Add, Next: 2, Seq: 2}}, "one with Reset that can't be applied, ahead of another": {edits(Edit{Reset: true, Drop: []uint64{1}}, begun), Version{Files: begun.Add, Next: 1, Seq: 1}},
	} {
		d := logged(t, c.records...)
		was := files(d)
		m := opens(t, d, c.want)
		has(t, m, d, c.want)
		if !maps.Equal(files(d), was) {
			t.Errorf("%s: Open has changed the disk", what)
		}
		answers(t, what+": Tidy", m.Tidy(), api.OK)
		c.want.Next = 0
		for _, f := range c.want.Files {
			c.want.Next = max(c.want.Next, f.Num+1)
		}
		has(t, m, d, c.want)
	}
	twice := Edit{Add: []File{on(0, 3, "a", "b"), on(0, 3, "a", "b")}}
	for what, records := range map[string][][]byte{
		"an empty record": {nil}, "junk": {junk}, "junk behind": append(edits(a), junk), "junk ahead": append([][]byte{junk}, edits(a)...), "junk behind Reset": append(edits(begun), junk), "junk behind Reset, and more": append(append(edits(begun), junk), edits(b)...), "an edit that ends": {plainEncode(a)[:5]}, "an edit with more behind": {append(plainEncode(a), 0)}, "two edits in one": {append(plainEncode(a), plainEncode(a)...)},
		"what isn't there": edits(b), "there twice": edits(a, a), "old": edits(a, Edit{}), "not right": edits(Edit{Add: []File{on(0, 1, "b", "a")}}), "twice in one": edits(twice), "Reset that drops": edits(a, Edit{Reset: true, Drop: []uint64{0}}), "Reset that isn't right": edits(a, Edit{Reset: true, Add: []File{on(4, 1, "", "")}}), "what can't be applied, behind Reset": edits(begun, a), "the right one behind": edits(b, a),
	} {
		d := logged(t, records...)
		was := files(d)
		refused(t, what, d, api.ErrForm)
		refused(t, what+", on a dead disk", killed(d), api.ErrDead)
		if !maps.Equal(files(d), was) {
			t.Errorf("%s: Open has changed the disk", what)
		}
	}
}

func TestOpenOfTornLogs(t *testing.T) { // P12.3, P12.4
	a, b := Edit{Add: []File{on(0, 0, "a", "c")}, Seq: 1}, Edit{Add: []File{on(0, 1, "a", "c")}, Seq: 2}
	one, two := Version{Files: a.Add, Next: 1, Seq: 1}, Version{Files: []File{b.Add[0], a.Add[0]}, Next: 2, Seq: 2}
	ends := len(frameOfLog(a))
	whole := frameOfLog(a, b)
	for size := range len(whole) + 1 {
		want := []Version{{}, one, two}[min(1, size/ends)+size/len(whole)]
		d := disk.New(10000)
		d.Append("xm.0000000000000000", whole[:size])
		armed := d.Twin()
		armed.Arm(0)
		if torn := size%ends != 0 && size < len(whole); torn {
			refused(t, "torn, on an armed disk", armed, api.ErrDead)
			armed.Crash(math.MaxInt)
		}
		m := opens(t, d, want)
		answers(t, "Commit", m.Commit(Edit{Reset: true, Seq: 1}), api.OK)
		has(t, m, d, Version{Seq: 1})
	}
	if m, e := Open(killed(disk.New(0)), "x"); m != nil || e != api.ErrDead {
		t.Errorf("Open of a dead disk = %v, %v", m, e)
	}
}

func TestPrefixes(t *testing.T) { // P12.3: manifests, and what else lies on a disk, are each for themselves
	d := disk.New(100000)
	d.Append("m.", []byte("junk"))
	d.Append("m.m.", []byte("junk"))
	d.Append("xm.1", []byte("junk"))
	d.Append("x.0000000000000000", []byte("junk"))
	prefixes := []string{"", "m", "m.", "m.m.", "x", "X", "a/b", "\xff\x00"}
	for i, prefix := range prefixes {
		m, e := Open(d, prefix)
		if e != api.OK || !sameVersion(m.Version, Version{}) {
			t.Fatalf("Open under %q = %v, %v", prefix, m, e)
		}
		answers(t, "Commit", m.Commit(Edit{Add: []File{on(0, uint64(i), "a", "b")}, Seq: uint64(i)}), api.OK)
		if _, e := d.Read(prefix + "m.0000000000000000"); e != api.OK {
			t.Errorf("under %q: the disk has %q", prefix, d.List(""))
		}
	}
	for i, prefix := range prefixes {
		want := Version{Files: []File{on(0, uint64(i), "a", "b")}, Next: uint64(i) + 1, Seq: uint64(i)}
		m, e := Open(d, prefix)
		if e != api.OK || !sameVersion(m.Version, want) {
			t.Errorf("Open under %q = %v, %v", prefix, m, e)
		}
		answers(t, "Tidy", m.Tidy(), api.OK)
		if m, e := Open(d, prefix); e != api.OK || !sameVersion(m.Version, want) {
			t.Errorf("Open under %q = %v, %v", prefix, m, e)
		}
	}
	if len(d.List("")) != len(prefixes)+4 {
		t.Errorf("the disk has %q", d.List(""))
	}
}

// wide are edits of which each adds a file with keys so long that their bytes take some 4100.
func wide(from, count int) []Edit {
	var out []Edit
	for i := from; i < from+count; i++ {
		key := make([]byte, api.MaxKey)
		out = append(out, Edit{Add: []File{{Num: uint64(i), Meta: table.Meta{First: key, Last: key}}}, Seq: uint64(i)})
	}
	return out
}

func TestTooLong(t *testing.T) { // P12.3
	d := disk.New(1 << 23)
	m := opens(t, d, Version{})
	var big Edit
	var v Version
	for _, e := range wide(0, 250) {
		answers(t, "Commit", m.Commit(e), api.OK)
		v, _ = plainApply(v, e)
		big.Add = append(big.Add, e.Add...)
	}
	has(t, m, d, v)
	answers(t, "Tidy", m.Tidy(), api.OK) // it still fits
	has(t, m, d, v)
	for _, e := range wide(250, 10) {
		answers(t, "Commit", m.Commit(e), api.OK)
		v, _ = plainApply(v, e)
		big.Add = append(big.Add, e.Add...)
	}
	big.Reset = true
	if len(Encode(big)) <= api.MaxRecord {
		t.Fatalf("the edit has %d bytes alone", len(Encode(big)))
	}
	was := files(d)
	answers(t, "Commit of what is too long", m.Commit(big), api.ErrSize)
	has(t, m, d, v)
	answers(t, "Tidy of what is too long", m.Tidy(), api.ErrSize)
	has(t, m, d, v)
	if !maps.Equal(files(d), was) {
		t.Errorf("what is too long has changed the disk")
	}
	answers(t, "Commit", m.Commit(Edit{Drop: []uint64{3, 7, 9, 100, 101, 102, 103}, Add: []File{on(3, 3, "", "")}, Seq: 900}), api.OK)
	v, _ = plainApply(v, Edit{Drop: []uint64{3, 7, 9, 100, 101, 102, 103}, Add: []File{on(3, 3, "", "")}, Seq: 900})
	has(t, m, d, v)
	answers(t, "Tidy", m.Tidy(), api.OK)
	has(t, m, d, v)
}

func TestManySegments(t *testing.T) { // P12.3: the log is longer than a segment
	d := disk.New(1 << 23)
	m := opens(t, d, Version{})
	var v Version
	key := make([]byte, api.MaxKey)
	for i := range uint64(700) {
		e := Edit{Add: []File{{Num: i, Meta: table.Meta{First: key, Last: key}}}, Seq: i}
		if i > 0 {
			e.Drop = []uint64{i - 1}
		}
		answers(t, "Commit", m.Commit(e), api.OK)
		v, _ = plainApply(v, e)
	}
	has(t, m, d, v)
	if len(d.List("xm.")) < 2 {
		t.Errorf("the log has the segments %q", d.List(""))
	}
	answers(t, "Tidy", m.Tidy(), api.OK)
	has(t, m, d, v)
	if len(d.List("xm.")) != 1 {
		t.Errorf("the log has the segments %q", d.List(""))
	}
}

func TestErrors(t *testing.T) { // P12.3
	d := disk.New(10000)
	m := opens(t, d, Version{})
	answers(t, "Commit", m.Commit(Edit{Add: []File{on(0, 0, "a", "c")}, Seq: 4}), api.OK)
	v := m.Version
	for _, c := range []struct {
		e    Edit
		want api.Errno
	}{
		{Edit{Add: []File{on(0, 0, "a", "c")}, Seq: 4}, api.ErrThere}, {Edit{Drop: []uint64{9}, Seq: 4}, api.ErrNone}, {Edit{Add: []File{on(4, 1, "", "")}, Seq: 4}, api.ErrForm}, {Edit{Seq: 3}, api.ErrOld}, {Edit{Reset: true, Drop: []uint64{0}}, api.ErrNone},
	} {
		d.Arm(0)
		answers(t, "Commit on an armed disk", m.Commit(c.e), c.want) // nothing is done
		if d.Dead() {
			t.Errorf("Commit(%v) asks the disk", c.e)
		}
		d.Arm(-1)
		has(t, m, d, v)
	}
	d.Arm(0)
	answers(t, "Commit on an armed disk", m.Commit(Edit{Seq: 4}), api.ErrDead)
	for range 2 {
		answers(t, "Commit on a dead disk", m.Commit(Edit{Seq: 5}), api.ErrDead)
		answers(t, "Tidy on a dead disk", m.Tidy(), api.ErrDead)
		answers(t, "Commit on a dead disk", m.Commit(Edit{Drop: []uint64{9}, Seq: 5}), api.ErrNone)
		if !sameVersion(m.Version, v) {
			t.Errorf("the version is %v", m.Version)
		}
	}
	d.Crash()
	opens(t, d, v)
}

func TestFullDisk(t *testing.T) { // P12.3
	first, second, third := Edit{Add: []File{on(0, 0, "a", "c")}, Seq: 1}, Edit{Add: []File{on(1, 1, "b", "d")}, Seq: 2}, Edit{Drop: []uint64{0}, Seq: 3}
	all := len(frameOfLog(first, second, third))
	tidied := 0
	for room := range 3 * all {
		d := disk.New(room)
		m := opens(t, d, Version{})
		var v Version
		used := 0
		for _, e := range []Edit{first, second, third} {
			want, err := plainApply(v, e)
			if err != api.OK { // one of those ahead didn't fit
				continue
			}
			if size := len(frameOfLog(e)); used+size > room {
				answers(t, "Commit without room", m.Commit(e), api.ErrFull)
			} else {
				answers(t, "Commit", m.Commit(e), api.OK)
				v, used = want, used+size
			}
			has(t, m, d, v)
			if d.Used() != used {
				t.Fatalf("%d bytes are used; want %d", d.Used(), used)
			}
		}
		was := files(d)
		if used+len(frameOfLog(m.Whole())) > room {
			answers(t, "Tidy without room", m.Tidy(), api.ErrFull)
			if !maps.Equal(files(d), was) {
				t.Errorf("Tidy without room has changed the disk")
			}
		} else {
			answers(t, "Tidy", m.Tidy(), api.OK)
			v, _ = plainApply(Version{}, m.Whole())
			tidied++
		}
		has(t, m, d, v)
		if e := (Edit{Seq: 9}); d.Used()+len(frameOfLog(e)) <= room {
			answers(t, "Commit", m.Commit(e), api.OK)
			v.Seq = 9
		}
		has(t, m, d, v)
	}
	if tidied < all/2 || tidied > 3*all-10 {
		t.Errorf("%d were tidied", tidied)
	}
}

// story are edits with a Tidy (nil) here and there.
func story() []*Edit {
	return []*Edit{
		{Add: []File{on(0, 0, "a", "c")}, Seq: 1}, {Add: []File{on(0, 4, "b", "d")}, Seq: 2}, nil, {Drop: []uint64{0, 4}, Add: []File{on(1, 5, "a", "d")}, Seq: 2}, nil, nil,
		{Reset: true, Add: []File{on(2, 7, "a", "d")}, Seq: 1}, {Seq: 5}, {Drop: []uint64{7}, Seq: 6}, nil, {Add: []File{on(3, 0, "x", "y")}, Seq: 6},
	}
}

// tell plays the story's steps upon a manifest, up to the first that isn't answered OK. It answers the version of what was answered OK, that with the step that wasn't, and whether there was one.
func tell(t *testing.T, m *Manifest, steps []*Edit) (sure, perhaps Version, died bool) {
	t.Helper()
	sure = m.Version
	for _, step := range steps {
		var e api.Errno
		if step == nil {
			perhaps, _ = plainApply(Version{}, Edit{Reset: true, Add: sure.Files, Seq: sure.Seq})
			e = m.Tidy()
		} else {
			perhaps, _ = plainApply(sure, *step)
			e = m.Commit(*step)
		}
		if e != api.OK {
			answers(t, "a step", e, api.ErrDead)
			if !sameVersion(m.Version, sure) {
				t.Fatalf("behind a step that died the version is %v; want %v", m.Version, sure)
			}
			return sure, perhaps, true
		}
		sure = perhaps
	}
	return sure, sure, false
}

func TestEachDeath(t *testing.T) { // P12.4
	for _, keeps := range [][]int{nil, {1}, {7}, {8}, {9}, {15}, {20}, {28}, {30}, {1000}, {math.MaxInt}, {13, 5}} {
		done := false
		for arm := 0; !done; arm++ {
			d := disk.New(10000)
			m := opens(t, d, Version{})
			d.Arm(arm)
			sure, perhaps, died := tell(t, m, story())
			done = !died
			d.Crash(keeps...)
			for dies := range 3 { // Open may die, too
				d.Arm(dies)
				if m, e := Open(d, "x"); e != api.OK && (m != nil || e != api.ErrDead) {
					t.Fatalf("Open that may die = %v, %v", m, e)
				}
				d.Crash(keeps...)
			}
			m, e := Open(d, "x")
			if e != api.OK || !sameVersion(m.Version, sure) && !sameVersion(m.Version, perhaps) {
				t.Fatalf("dead behind %d: Open = %v, %v; want %v or %v", arm, m, e, sure, perhaps)
			}
			has(t, m, d, m.Version)
			was := m.Version
			answers(t, "Tidy", m.Tidy(), api.OK)
			tidy, _ := plainApply(Version{}, Edit{Reset: true, Add: was.Files, Seq: was.Seq})
			has(t, m, d, tidy)
			if len(d.List("")) != 1 {
				t.Fatalf("dead behind %d: Tidy leaves %q", arm, d.List(""))
			}
			if arm > 100 {
				t.Fatalf("the story takes no end")
			}
		}
	}
}

func TestEachKeptByte(t *testing.T) { // P12.4: of the step in which it died any beginning is kept
	for _, step := range []*Edit{nil, {Drop: []uint64{3}, Add: []File{on(1, 9, "a", "c")}, Seq: 8}} {
		for arm := range 6 {
			for keep := range 80 {
				d := disk.New(10000)
				m := opens(t, d, Version{})
				tell(t, m, []*Edit{{Add: []File{on(0, 3, "a", "c"), on(0, 8, "a", "b")}, Seq: 7}, {Drop: []uint64{8}, Seq: 7}})
				d.Arm(arm)
				sure, perhaps, died := tell(t, m, []*Edit{step})
				d.Crash(keep)
				m, e := Open(d, "x")
				if e != api.OK || !sameVersion(m.Version, perhaps) && (!died || !sameVersion(m.Version, sure)) {
					t.Fatalf("dead behind %d, kept %d: Open = %v, %v; want %v or %v", arm, keep, m, e, sure, perhaps)
				}
				has(t, m, d, m.Version)
				_, _, died = tell(t, m, []*Edit{{Add: []File{on(0, 20, "", "")}, Seq: 9}, nil, {Drop: []uint64{20}, Seq: 9}})
				if died || len(m.Files) != 1 || m.Next != 21 || m.Seq != 9 {
					t.Fatalf("dead behind %d, kept %d: it goes on to %v", arm, keep, m.Version)
				}
				has(t, m, d, m.Version)
			}
		}
	}
}

func TestDyingDrop(t *testing.T) { // P12.4: of what is ahead of the Whole edit some is dropped
	list := []Edit{{Add: []File{on(0, 0, "a", "c")}, Seq: 1}, {Add: []File{on(0, 1, "a", "c")}, Seq: 2}, {Drop: []uint64{0}, Seq: 3}, {Drop: []uint64{1}, Add: []File{on(1, 2, "", "z")}, Seq: 4}, {Add: []File{on(0, 9, "a", "c")}, Seq: 5}, {Drop: []uint64{9}, Seq: 5}}
	var v Version
	for _, e := range list {
		v, _ = plainApply(v, e)
	}
	tidy := Version{Files: v.Files, Next: 3, Seq: 5}
	left := map[int]bool{}
	for arm := range 12 {
		d := logged(t, edits(list...)...) // each in a segment of its own
		m := opens(t, d, v)
		d.Arm(arm)
		e := m.Tidy()
		if e != api.OK && (e != api.ErrDead || !sameVersion(m.Version, v)) {
			t.Fatalf("Tidy = %v; the version is %v", e, m.Version)
		}
		d.Crash()
		left[len(d.List(""))] = true
		want := tidy
		if arm < 4 { // Rotate's Sync, that ahead of a new segment, Append, Sync: till then the log is as it was
			want = v
		}
		m = opens(t, d, want)
		has(t, m, d, want)
		answers(t, "Commit", m.Commit(Edit{Add: []File{on(0, 7, "a", "c")}, Seq: 6}), api.OK)
		answers(t, "Tidy", m.Tidy(), api.OK)
		has(t, m, d, Version{Files: []File{on(0, 7, "a", "c"), on(1, 2, "", "z")}, Next: 8, Seq: 6})
		if len(d.List("")) != 1 {
			t.Errorf("Tidy leaves %q", d.List(""))
		}
	}
	for n := 1; n <= 7; n++ {
		if !left[n] {
			t.Errorf("no Tidy left %d segments: %v", n, left)
		}
	}
}

// play plays a script upon a manifest, with the version that it must have.
func play(t *testing.T, room int, script []byte) {
	d := disk.New(room)
	m := opens(t, d, Version{})
	var v Version
	crash := func(perhaps Version, seed uint64) {
		r := rand.New(rand.NewPCG(seed, 12))
		keeps := []int{r.IntN(100), r.IntN(100)}
		d.Crash(keeps[:r.IntN(3)]...)
		again, e := Open(d, "x")
		if e != api.OK || !sameVersion(again.Version, v) && !sameVersion(again.Version, perhaps) {
			t.Fatalf("behind a crash: Open = %v, %v; want %v or %v", again, e, v, perhaps)
		}
		m, v = again, again.Version
	}
	for i := 0; i+1 < len(script); i += 2 {
		seed := uint64(script[i])<<16 | uint64(script[i+1])<<8 | uint64(i)&255
		next, size, e := v, 0, api.OK
		switch script[i] % 8 {
		default:
			edit := anyEdit(rand.New(rand.NewPCG(seed, 12)), v)
			var want api.Errno
			if next, want = plainApply(v, edit); want != api.OK {
				answers(t, fmt.Sprintf("Commit(%v)", edit), m.Commit(edit), want)
				continue
			}
			size, e = len(frameOfLog(edit)), m.Commit(edit)
		case 5:
			whole := m.Whole()
			next, _ = plainApply(Version{}, whole)
			size, e = len(frameOfLog(whole)), m.Tidy()
		case 6:
			d.Arm(int(script[i+1]) % 9)
		case 7:
			crash(v, seed)
		}
		switch {
		case e == api.OK:
			v = next
		case e == api.ErrDead && d.Dead():
			crash(next, seed)
		case e != api.ErrFull || d.Used()+size <= room:
			t.Fatalf("the step %d = %v: %d of %d bytes are used, %d wanted", script[i]%8, e, d.Used(), room, size)
		}
		has(t, m, d, v)
	}
}

func TestAnyCalls(t *testing.T) { // P12.3, P12.4
	for seed := range uint64(500) {
		r := rand.New(rand.NewPCG(seed, 12))
		script := make([]byte, 2*60)
		for i := range script {
			script[i] = byte(r.Uint32())
		}
		play(t, []int{100, 300, 1000, 1 << 15}[seed%4], script)
	}
}

// roomy is a copy of b with spare room that holds other bytes.
func roomy(b []byte) []byte {
	return append(slices.Clone(b), 0, 1, 2, 255)[:len(b)]
}

// roomyFiles is a copy of files with spare room, also in the list itself.
func roomyFiles(list []File) []File {
	var out []File
	for _, f := range list {
		f.First, f.Last = roomy(f.First), roomy(f.Last)
		out = append(out, f)
	}
	return append(out, on(0, 77, "more", "more"))[:len(list)]
}

// untouched looks whether a list that was made by roomyFiles still is one of these files.
func untouched(t *testing.T, what string, list, want []File) {
	t.Helper()
	for i, f := range list {
		if !sameFile(f, want[i]) || !bytes.Equal(f.First[:len(f.First)+4][len(f.First):], []byte{0, 1, 2, 255}) || !bytes.Equal(f.Last[:len(f.Last)+4][len(f.Last):], []byte{0, 1, 2, 255}) {
			t.Errorf("%s: the file %d is changed: %v", what, i, f)
		}
	}
	if f := list[:len(list)+1][len(list)]; !sameFile(f, on(0, 77, "more", "more")) {
		t.Errorf("%s: the list's spare room is changed: %v", what, f)
	}
}

// fill writes over a list, its spare room too.
func fill(b []byte) {
	b = b[:cap(b)]
	for i := range b {
		b[i] = 77
	}
}

// spoil writes over all of a list of files.
func spoil(list []File) {
	for _, f := range list {
		fill(f.First)
		fill(f.Last)
	}
	clear(list[:cap(list)])
}

// apart writes over each key of an answer, one by one, and looks whether those that aren't written over yet stay.
func apart(t *testing.T, what string, got, want []File) {
	t.Helper()
	for i := range got {
		fill(got[i].First)
		if !bytes.Equal(got[i].Last, want[i].Last) {
			t.Errorf("%s: First and Last of the file %d share memory", what, i)
		}
		fill(got[i].Last)
		if !slices.EqualFunc(got[i+1:], want[i+1:], sameFile) {
			t.Errorf("%s: the file %d shares memory with a later one", what, i)
		}
	}
	clear(got[:cap(got)])
}

func TestMemoryOfApply(t *testing.T) { // P12.5
	had, added := []File{on(0, 3, "aa", "cc"), on(0, 2, "bb", "dd"), on(1, 1, "ee", "ff")}, []File{on(2, 8, "x", "z"), on(0, 4, "uvw", "xyz"), on(1, 5, "aa", "bb")}
	for _, drop := range [][]uint64{nil, {2}, {3, 1, 2}} {
		for _, reset := range []bool{false, true} {
			v := Version{Files: roomyFiles(had), Next: 9, Seq: 1}
			e := Edit{Reset: reset, Add: roomyFiles(added), Drop: append(slices.Clone(drop), 1, 2, 3)[:len(drop)], Seq: 2}
			if reset {
				e.Drop = nil
			}
			want, _ := plainApply(Version{Files: had, Next: 9, Seq: 1}, Edit{Reset: reset, Add: added, Drop: e.Drop, Seq: 2})
			one, err := Apply(v, e)
			two, err2 := Apply(v, e)
			if Right(v); err != api.OK || err2 != api.OK || !sameVersion(one, want) {
				t.Fatalf("Apply = %v, %v", one, err)
			}
			apart(t, "Apply", one.Files, want.Files)
			untouched(t, "Apply's version", v.Files, had)
			untouched(t, "Apply's edit", e.Add, added)
			if !reset && !slices.Equal(e.Drop[:len(drop)+3], append(slices.Clone(drop), 1, 2, 3)) {
				t.Errorf("Apply has changed Drop: %v", e.Drop)
			}
			spoil(v.Files)
			spoil(e.Add)
			if !sameVersion(two, want) {
				t.Errorf("Apply's answer shares memory: %v", two)
			}
		}
	}
	key := []byte("one key")
	alone, _ := Apply(Version{}, Edit{Add: []File{{Meta: table.Meta{First: key, Last: key}}}})
	fill(alone.Files[0].First)
	if string(alone.Files[0].Last) != "one key" || string(key) != "one key" {
		t.Errorf("Apply: First and Last share memory")
	}
}

func TestMemoryOfBytes(t *testing.T) { // P12.5
	added := []File{on(2, 8, "x\x00", "z"), on(0, 4, "uvw", "xyz")}
	e := Edit{Reset: true, Add: roomyFiles(added), Drop: append([]uint64{5, 6}, 7)[:2], Seq: 300}
	want := plainEncode(Edit{Reset: true, Add: added, Drop: []uint64{5, 6}, Seq: 300})
	one, two := Encode(e), Encode(e)
	fill(one)
	untouched(t, "Encode", e.Add, added)
	if !slices.Equal(e.Drop[:3], []uint64{5, 6, 7}) {
		t.Errorf("Encode has changed Drop: %v", e.Drop)
	}
	spoil(e.Add)
	clear(e.Drop)
	if !bytes.Equal(two, want) {
		t.Errorf("Encode: what is answered shares memory: %v", two)
	}
	b := roomy(want)
	back, err := Decode(b)
	again, _ := Decode(b)
	if err != api.OK || !bytes.Equal(b[:len(b)+4], append(slices.Clone(want), 0, 1, 2, 255)) {
		t.Errorf("Decode has changed its bytes: %v", err)
	}
	fill(b)
	apart(t, "Decode", back.Add, added)
	clear(back.Drop[:cap(back.Drop)])
	if !sameEdit(again, Edit{Reset: true, Add: added, Drop: []uint64{5, 6}, Seq: 300}) {
		t.Errorf("Decode: what is answered shares memory: %v", again)
	}
}

func TestMemoryOfManifests(t *testing.T) { // P12.5
	had, added := []File{on(0, 3, "aa", "cc"), on(1, 1, "ee", "ff")}, []File{on(0, 4, "uvw", "xyz"), on(1, 5, "aa", "bb")}
	d := disk.New(10000)
	m := opens(t, d, Version{})
	first := Edit{Add: roomyFiles(had), Seq: 1}
	answers(t, "Commit", m.Commit(first), api.OK)
	untouched(t, "Commit", first.Add, had)
	spoil(first.Add)
	has(t, m, d, Version{Files: had, Next: 4, Seq: 1})
	other := opens(t, d, Version{Files: had, Next: 4, Seq: 1})
	was := m.Version
	e := Edit{Add: roomyFiles(added), Drop: append([]uint64{3}, 1)[:1], Seq: 2}
	answers(t, "Commit", m.Commit(e), api.OK)
	untouched(t, "Commit", e.Add, added)
	if !slices.Equal(e.Drop[:2], []uint64{3, 1}) {
		t.Errorf("Commit has changed Drop: %v", e.Drop)
	}
	spoil(e.Add)
	clear(e.Drop)
	now := Version{Files: []File{added[0], added[1], had[1]}, Next: 6, Seq: 2}
	has(t, m, d, now)
	if !sameVersion(was, Version{Files: had, Next: 4, Seq: 1}) || !sameVersion(other.Version, was) {
		t.Errorf("Commit has changed an older version, or another manifest: %v, %v", was, other.Version)
	}
	spoil(was.Files)
	apart(t, "Whole", m.Whole().Add, now.Files)
	has(t, m, d, now)
	if !sameVersion(other.Version, Version{Files: had, Next: 4, Seq: 1}) {
		t.Errorf("two manifests share memory: %v", other.Version)
	}
	was = m.Version
	answers(t, "Tidy", m.Tidy(), api.OK)
	spoil(was.Files)
	has(t, m, d, now)
	again := opens(t, d, now)
	spoil(again.Files)
	has(t, m, d, now)
}

// FuzzDecode: Decode of whatever there is, and a manifest of it.
func FuzzDecode(f *testing.F) { // P1, P12.2, P12.3
	for _, step := range story() {
		if step != nil {
			f.Add(plainEncode(*step))
		}
	}
	f.Add(plainEncode(Edit{Add: []File{{Num: math.MaxUint64, Level: -1, Meta: table.Meta{First: []byte{0, 7}, Count: math.MinInt, Size: -300}}}}))
	f.Add([]byte{3, 0, 128, 0, 1, 128})
	f.Fuzz(func(t *testing.T, b []byte) {
		b = b[:min(len(b), 2000)]
		decodes(t, b)
		d := logged(t, b)
		e, err := plainDecode(b)
		v, err2 := plainApply(Version{}, e)
		if err != api.OK || err2 != api.OK {
			refused(t, "fuzzed", d, api.ErrForm)
			return
		}
		m := opens(t, d, v)
		has(t, m, d, v)
	})
}

// FuzzApply: a version and an edit of two files with any fields.
func FuzzApply(f *testing.F) { // P1, P12.1, P12.2
	f.Add(uint64(3), 0, []byte("a"), []byte("c"), uint64(4), 1, []byte("a"), []byte("b"), uint64(9), uint64(5), uint64(5), uint64(3), false)
	f.Add(uint64(3), 1, []byte("c"), []byte("a"), uint64(math.MaxUint64), -1, []byte(nil), []byte("b"), uint64(0), uint64(5), uint64(4), uint64(4), true)
	f.Fuzz(func(t *testing.T, num uint64, level int, first, last []byte, num2 uint64, level2 int, first2, last2 []byte, next, seq, seq2, drop uint64, reset bool) {
		a := File{Num: num, Level: level, Meta: table.Meta{First: first, Last: last, Count: level2, Size: level}}
		b := File{Num: num2, Level: level2, Meta: table.Meta{First: first2, Last: last2, Count: level, Size: level2}}
		for _, v := range []Version{{}, {Next: next, Seq: seq}, {Files: []File{a}, Next: next, Seq: seq}, {Files: []File{a, b}, Next: next, Seq: seq}, {Files: []File{b, a}, Next: next, Seq: seq}} {
			if Right(v) != plainRight(v) {
				t.Fatalf("Right(%v) = %v", v, Right(v))
			}
			for _, e := range []Edit{{Seq: seq2}, {Add: []File{a}, Seq: seq2}, {Add: []File{a, b}, Seq: seq2}, {Add: []File{a}, Drop: []uint64{drop}, Seq: seq2}, {Drop: []uint64{num, num2}, Seq: seq2}} {
				e.Reset = reset
				applies(t, v, e)
				if back, err := Decode(Encode(e)); err != api.OK || !sameEdit(back, e) || !bytes.Equal(Encode(e), plainEncode(e)) {
					t.Fatalf("Decode(Encode(%v)) = %v, %v", e, back, err)
				}
			}
		}
	})
}

// FuzzPlay: as TestAnyCalls, with scripts that are looked for.
func FuzzPlay(f *testing.F) { // P1, P12.3, P12.4
	f.Add([]byte{0, 1, 1, 2, 5, 0, 6, 2, 0, 5, 0, 6, 7, 9, 5, 1}, 1000)
	f.Fuzz(func(t *testing.T, script []byte, room int) {
		play(t, max(min(room, 1<<15), 0), script[:min(len(script), 2*60)])
	})
}
