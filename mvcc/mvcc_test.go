package mvcc

import (
	"bytes"
	"cmp"
	"fmt"
	"maps"
	"math"
	"math/rand/v2"
	"slices"
	"strings"
	"testing"

	"caisson/api"
	"caisson/disk"
	"caisson/lsm"
)

// put is a Write of a value.
func put(key, value string) api.Write { return api.Write{Key: []byte(key), Value: []byte(value)} }

// gone is a Write that takes a key's value away.
func gone(key string) api.Write { return api.Write{Key: []byte(key), Gone: true} }

// note is a note's name and value.
func note(name, value string) api.Pair { return api.Pair{Key: []byte(name), Value: []byte(value)} }

// at names a version.
type at struct {
	key string
	ts  uint64
}

// text is a value, or none.
type text struct {
	value string
	gone  bool
}

// plain is a store by the words of the document. What was applied is kept for ever, besides the versions that are there.
type plain struct {
	applied, there map[at]text
	notes          map[string]string
	low            uint64
}

func newPlain() *plain {
	return &plain{applied: map[at]text{}, there: map[at]text{}, notes: map[string]string{}}
}

func (p *plain) clone() *plain {
	return &plain{applied: maps.Clone(p.applied), there: maps.Clone(p.there), notes: maps.Clone(p.notes), low: p.low}
}

func (p *plain) apply(ts uint64, writes []api.Write, notes []api.Pair) {
	for _, w := range writes {
		x := text{value: string(w.Value), gone: w.Gone}
		p.applied[at{string(w.Key), ts}] = x
		p.there[at{string(w.Key), ts}] = x
	}
	for _, n := range notes {
		p.notes[string(n.Key)] = string(n.Value)
	}
}

// names: those of all versions, by rising keys, of one key by falling timestamps.
func (p *plain) names() []at {
	return slices.SortedFunc(maps.Keys(p.there), func(a, b at) int {
		return cmp.Or(cmp.Compare(a.key, b.key), cmp.Compare(b.ts, a.ts))
	})
}

// idle: may a version be removed?
func (p *plain) idle(x at) bool {
	superseded, oldest := false, true
	for y := range p.there {
		if y.key == x.key {
			superseded = superseded || y.ts > x.ts && y.ts <= p.low
			oldest = oldest && y.ts >= x.ts
		}
	}
	return superseded || p.there[x].gone && oldest && x.ts <= p.low
}

func (p *plain) collect(below uint64, most int) int {
	p.low = max(p.low, below)
	var out []at
	for _, x := range p.names() {
		if p.idle(x) && len(out) < most {
			out = append(out, x)
		}
	}
	for _, x := range out {
		delete(p.there, x)
	}
	return len(out)
}

// read: a key's value at a timestamp, by what was applied.
func (p *plain) read(key string, ts uint64) (string, bool) {
	found, ok := at{}, false
	for x := range p.applied {
		if x.key == key && x.ts <= ts && (!ok || x.ts > found.ts) {
			found, ok = x, true
		}
	}
	x := p.applied[found]
	if !ok || x.gone {
		return "", false
	}
	return x.value, true
}

// scan: all keys between that have a value at a timestamp.
func (p *plain) scan(from, to string, ts uint64) []api.Pair {
	keys := map[string]int{}
	for x := range p.applied {
		keys[x.key]++
	}
	var out []api.Pair
	for _, key := range slices.Sorted(maps.Keys(keys)) {
		if value, ok := p.read(key, ts); ok && key >= from && (to == "" || key < to) {
			out = append(out, note(key, value))
		}
	}
	return out
}

// same: are these alike, an empty list and nil too?
func same(a, b []api.Pair) bool {
	return slices.EqualFunc(a, b, func(x, y api.Pair) bool { return bytes.Equal(x.Key, y.Key) && bytes.Equal(x.Value, y.Value) })
}

// keys are those that are written and asked for.
var keys = []string{"", "\x00", "\x00\x01", "\x00\xff", "a", "a\x00", "a\x00\x01", "ab", "b", "\xff", "\xff\xff"}

// others are never written.
var others = []string{"\x00\x00", "a\x00\xff", "aa", "d", "\xff\x00"}

// names are those of notes.
var names = []string{"", "n", "m", "\x00", "\xff", "0123456789abcdef", "low"}

// ranges are some of which all is asked for.
var ranges = [][2]string{{"", ""}, {"", "\x00"}, {"", "b"}, {"\x00", "a"}, {"\x00", "\x00\x02"}, {"a", ""}, {"a", "a"}, {"a", "a\x00"}, {"a\x00", "ac"}, {"aa", "c"}, {"b", "a"}, {"c", "\xff"}, {"\xff", ""}, {"\xff\xff", "\xff"}, {"\xff\xff\x00", ""}}

// times are the timestamps that are applied and asked at.
var times = []uint64{0, 1, 2, 3, 5, 9, 256, 1 << 63, math.MaxUint64}

// answers looks whether a call answers this error.
func answers(t *testing.T, what string, got, want api.Errno) {
	t.Helper()
	if got != want {
		t.Fatalf("%s = %v; want %v", what, got, want)
	}
}

// agrees looks whether a store says what the plain one does, and whether its engine has just what it must.
func agrees(t *testing.T, what string, s Store, p *plain) {
	t.Helper()
	if s.Low() != p.low {
		t.Fatalf("%s: Low = %d; want %d", what, s.Low(), p.low)
	}
	agreesInNotes(t, what, s, p)
	agreesInVersions(t, what, s, p)
	for _, ts := range append([]uint64{p.low - 1, p.low, p.low + 1}, times...) {
		if ts < p.low {
			isOld(t, what, s, ts)
			continue
		}
		for _, key := range slices.Concat(keys, others) {
			want, there := p.read(key, ts)
			if v, ok, e := s.Read([]byte(key), ts); string(v) != want || ok != there || e != api.OK || !ok && v != nil {
				t.Fatalf("%s: Read(%q, %d) = %q, %v, %v; want %q, %v", what, key, ts, v, ok, e, want, there)
			}
		}
		for _, r := range ranges {
			list, e := s.Scan([]byte(r[0]), []byte(r[1]), ts)
			if want := p.scan(r[0], r[1], ts); e != api.OK || !same(list, want) {
				t.Fatalf("%s: Scan(%q, %q, %d) = %q, %v; want %q", what, r[0], r[1], ts, list, e, want)
			}
		}
	}
}

// isOld looks whether nothing is said at a timestamp.
func isOld(t *testing.T, what string, s Store, ts uint64) {
	t.Helper()
	v, ok, e := s.Read([]byte("a"), ts)
	list, e2 := s.Scan(nil, nil, ts)
	if v != nil || ok || list != nil || e != api.ErrOld || e2 != api.ErrOld {
		t.Fatalf("%s: at %d: Read = %q, %v, %v; Scan = %q, %v", what, ts, v, ok, e, list, e2)
	}
}

func agreesInNotes(t *testing.T, what string, s Store, p *plain) {
	t.Helper()
	for _, name := range append([]string{"o", "nn", "low\x00", lowName, strings.Repeat("n", 17)}, names...) {
		want, there := p.notes[name]
		if v, ok, e := s.Note([]byte(name)); string(v) != want || ok != there || e != api.OK || !ok && v != nil {
			t.Fatalf("%s: Note(%q) = %q, %v, %v; want %q, %v", what, name, v, ok, e, want, there)
		}
	}
}

// plainKey is the key of the engine under which a version lies, by the words of the document.
func plainKey(x at) string {
	out := "u" + strings.ReplaceAll(x.key, "\x00", "\x00\xff") + "\x00\x01"
	for i := 7; i >= 0; i-- {
		out += string([]byte{byte((math.MaxUint64 - x.ts) >> (8 * i))})
	}
	return out
}

func agreesInVersions(t *testing.T, what string, s Store, p *plain) {
	t.Helper()
	list, e := s.Versions()
	if want := p.names(); e != api.OK || len(list) != len(want) {
		t.Fatalf("%s: Versions = %v, %v; want %v", what, list, e, want)
	}
	pairs := map[string]string{}
	for i, x := range p.names() {
		v, w := list[i], p.there[x]
		if string(v.Key) != x.key || v.Ts != x.ts || string(v.Value) != w.value || v.Gone != w.gone {
			t.Fatalf("%s: the version %d is %v; want %v, %v", what, i, v, x, w)
		}
		pairs[plainKey(x)] = "\x01" + w.value
		if w.gone {
			pairs[plainKey(x)] = "\x00"
		}
	}
	for name, value := range p.notes {
		pairs["m"+name] = value
	}
	all, e := s.Engine.Scan(nil, nil, s.Seq())
	for _, x := range all {
		value, known := pairs[string(x.Key)]
		if own := x.Key[0] == 'm' && len(x.Key) > 17; !own && (!known || value != string(x.Value)) {
			t.Fatalf("%s: the engine has %q", what, x)
		}
		delete(pairs, string(x.Key))
	}
	if e != api.OK || len(pairs) > 0 {
		t.Fatalf("%s: the engine hasn't %q", what, pairs)
	}
}

// kinds are options of engines of which some flush and merge at each Write, and some never.
var kinds = []lsm.Options{{}, {Mem: 100, Block: 20, Fan: 2}, {Mem: 1 << 20, Block: 1000, Fan: 4}}

// opens opens the store on a disk.
func opens(t *testing.T, d *disk.Disk, o lsm.Options) Store {
	t.Helper()
	g, e := lsm.Open(d, "s/", o)
	if e != api.OK {
		t.Fatalf("Open = %v", e)
	}
	s := Of(g)
	if s.Engine != g {
		t.Fatalf("Of has another engine")
	}
	return s
}

// applies applies to both.
func applies(t *testing.T, s Store, p *plain, ts uint64, writes []api.Write, notes ...api.Pair) {
	t.Helper()
	seq := s.Seq()
	answers(t, fmt.Sprintf("Apply(%d, %v, %q)", ts, writes, notes), s.Apply(ts, writes, notes...), api.OK)
	p.apply(ts, writes, notes)
	if batches := min(len(writes)+len(notes), 1); s.Seq() != seq+uint64(batches) {
		t.Fatalf("an Apply made %d batches", s.Seq()-seq)
	}
}

// collects collects in both.
func collects(t *testing.T, s Store, p *plain, below uint64, most int) int {
	t.Helper()
	seq := s.Seq()
	n, e := s.Collect(below, most)
	if want := p.collect(below, most); e != api.OK || n != want {
		t.Fatalf("Collect(%d, %d) = %d, %v; want %d", below, most, n, e, want)
	}
	if s.Seq() > seq+1 {
		t.Fatalf("a Collect made %d batches", s.Seq()-seq)
	}
	return n
}

func TestExamples(t *testing.T) { // P15.1, P15.2
	for _, o := range kinds {
		d, p := disk.New(100000), newPlain()
		s := opens(t, d, o)
		agrees(t, "empty", s, p)
		applies(t, s, p, 5, []api.Write{put("a", "x")})
		applies(t, s, p, 9, []api.Write{gone("a")})
		agrees(t, "applied", s, p)
		if list, e := s.Versions(); e != api.OK || len(list) != 2 || string(list[0].Key) != "a" || list[0].Ts != 9 || !list[0].Gone || list[0].Value != nil || list[1].Ts != 5 || string(list[1].Value) != "x" || list[1].Gone {
			t.Errorf("Versions = %v, %v", list, e)
		}
		for i, want := range []int{1, 1, 0} {
			if n := collects(t, s, p, 9, 10); n != want {
				t.Errorf("Collect, time %d = %d; want %d", i, n, want)
			}
			agrees(t, "collected", s, p)
		}
		isOld(t, "collected", s, 8)
		applies(t, s, p, 9, nil, note("n", "1"))
		agrees(t, "a note", s, p)
		if v, ok, e := s.Note([]byte("n")); string(v) != "1" || !ok || e != api.OK {
			t.Errorf("Note = %q, %v, %v", v, ok, e)
		}
		agrees(t, "opened", opens(t, d, o), p)
	}
}

func TestOrders(t *testing.T) { // P15.1: whatever the order of the timestamps
	orders := [][]uint64{{1, 2, 3, 5}, {5, 3, 2, 1}, {3, 1, 5, 2}, {2, 5, 1, 3}, {math.MaxUint64, 0, 1 << 63, 256}, {255, 256, 0, math.MaxUint64 - 1}}
	for _, o := range kinds {
		for _, order := range orders {
			d, p := disk.New(100000), newPlain()
			s := opens(t, d, o)
			for i, ts := range order {
				applies(t, s, p, ts, []api.Write{put("a", fmt.Sprint(ts)), gone(keys[i]), put(keys[i+3], "x"), put("", "")}, note(names[i], fmt.Sprint(i)))
				agrees(t, "applied", s, p)
			}
			agrees(t, "opened", opens(t, d, o), p)
		}
	}
}

func TestLongKeys(t *testing.T) { // P15.1: none has a version
	s, p := opens(t, disk.New(1<<20), lsm.Options{}), newPlain()
	applies(t, s, p, 5, []api.Write{put(strings.Repeat("a", 400), "x"), put(strings.Repeat("\x00", 400), "y"), put(strings.Repeat("\xff", 400), "z")})
	agrees(t, "applied", s, p)
	for _, b := range []string{"\x00", "a", "\xff"} {
		whole := strings.Repeat(b, 400)
		if v, ok, e := s.Read([]byte(whole), 5); len(v) != 1 || !ok || e != api.OK {
			t.Errorf("Read of 400 bytes %q = %q, %v, %v", b, v, ok, e)
		}
		for _, n := range []int{399, 401, 512, 1024, 1025, 3000} {
			key := strings.Repeat(b, n)
			if v, ok, e := s.Read([]byte(key), 5); v != nil || ok || e != api.OK {
				t.Errorf("Read of %d bytes %q = %q, %v, %v", n, b, v, ok, e)
			}
			for _, r := range [][2]string{{"", key}, {key, ""}, {whole, key}, {key, whole}} {
				if list, e := s.Scan([]byte(r[0]), []byte(r[1]), 5); e != api.OK || !same(list, p.scan(r[0], r[1], 5)) {
					t.Errorf("Scan(%q, %q) = %q, %v", r[0], r[1], list, e)
				}
			}
		}
		if v, ok, e := s.Note([]byte(whole)); v != nil || ok || e != api.OK {
			t.Errorf("Note of 400 bytes %q = %q, %v, %v", b, v, ok, e)
		}
	}
}

func TestReplaced(t *testing.T) { // P15.1: the later write to a key holds, in one Apply and over several with one timestamp
	for _, o := range kinds {
		d, p := disk.New(100000), newPlain()
		s := opens(t, d, o)
		applies(t, s, p, 5, []api.Write{put("a", "1"), put("b", "1"), put("a", "2"), gone("b"), gone("ab"), put("ab", "")}, note("n", "1"), note("m", "1"), note("n", "2"))
		agrees(t, "twice in one", s, p)
		applies(t, s, p, 5, []api.Write{gone("a"), put("b", "3")}, note("n", ""))
		agrees(t, "again", s, p)
		applies(t, s, p, 4, []api.Write{put("a", "4"), put("b", "4")})
		applies(t, s, p, 5, []api.Write{put("a", "5"), gone("b")}, note("n", "6"))
		agrees(t, "and again", s, p)
		agrees(t, "opened", opens(t, d, o), p)
	}
}

func TestApplyOfNothing(t *testing.T) { // P15.1
	d, p := disk.New(1000), newPlain()
	s := opens(t, d, lsm.Options{})
	for _, ts := range times {
		applies(t, s, p, ts, nil)
		applies(t, s, p, ts, []api.Write{}, []api.Pair{}...)
	}
	agrees(t, "nothing applied", s, p)
	if d.Used() > 0 || s.Seq() > 0 {
		t.Errorf("of nothing %d bytes are used", d.Used())
	}
	collects(t, s, p, 5, 1)
	answers(t, "Apply of nothing below Low", s.Apply(4, nil), api.ErrOld)
	applies(t, s, p, 5, nil)
}

// long is a text of n bytes.
func long(n int) string { return strings.Repeat("k", n) }

// many are n writes to keys of their own.
func many(n int) []api.Write {
	var out []api.Write
	for i := range n {
		out = append(out, put(fmt.Sprintf("a%04d", i), fmt.Sprint(i)))
	}
	return out
}

// heavy are writes whose keys and values have n bytes together.
func heavy(n int) []api.Write {
	var out []api.Write
	for i := 0; n > 0; i++ {
		size := min(n, 30000)
		key := fmt.Sprintf("h%03d", i)[:min(4, size)]
		out = append(out, put(key, long(size-len(key))))
		n -= size
	}
	return out
}

// zeros are 200 keys of 400 bytes that a key of the engine has room for, though each of their bytes is written as two.
func zeros() []api.Write {
	var out []api.Write
	for i := range 200 {
		out = append(out, put(strings.Repeat("\x00", 399)+string([]byte{byte(i)}), strings.Repeat("\x00", 600)))
	}
	return out
}

func TestLimits(t *testing.T) { // P15.1
	bad := api.Write{Key: []byte("z"), Value: []byte("z"), Gone: true}
	notes := func(n int) []api.Pair {
		var out []api.Pair
		for i := range n {
			out = append(out, note(fmt.Sprint("n", i), "x"))
		}
		return out
	}
	for what, c := range map[string]struct {
		writes []api.Write
		notes  []api.Pair
		want   api.Errno
	}{
		"a key of 400": {[]api.Write{put(long(400), "v")}, nil, 0}, "of 401": {[]api.Write{put(long(401), "v")}, nil, api.ErrSize}, "401 gone": {[]api.Write{gone(long(401))}, nil, api.ErrSize}, "400 gone": {[]api.Write{gone(long(400))}, nil, 0},
		"a value of 32768": {[]api.Write{put("a", long(32768))}, nil, 0}, "of 32769": {[]api.Write{put("a", long(32769))}, nil, api.ErrSize}, "32769, then overtaken": {[]api.Write{put("a", long(32769)), put("a", "")}, nil, api.ErrSize},
		"a note of 32768": {nil, []api.Pair{note("n", long(32768))}, 0}, "a note of 32769": {nil, []api.Pair{note("n", long(32769))}, api.ErrSize}, "a name of 16": {nil, []api.Pair{note(long(16), "")}, 0}, "of 17": {nil, []api.Pair{note(long(17), "")}, api.ErrSize}, "the name of Low": {nil, []api.Pair{note(lowName, "")}, api.ErrSize},
		"200 writes": {many(200), nil, 0}, "201": {many(201), nil, api.ErrSize}, "200 notes": {nil, notes(200), 0}, "201 notes": {nil, notes(201), api.ErrSize}, "100 of both": {many(100), notes(100), 0}, "100 and 101": {many(100), notes(101), api.ErrSize}, "201 alike": {slices.Repeat([]api.Write{put("a", "")}, 201), nil, api.ErrSize}, "200 alike": {slices.Repeat([]api.Write{put("a", "")}, 200), nil, 0},
		"200000 bytes": {heavy(200000), nil, 0}, "200001": {heavy(200001), nil, api.ErrSize}, "200000 with a note": {heavy(199990), []api.Pair{note("12345", "67890")}, 0}, "200001 with a note": {heavy(199991), []api.Pair{note("12345", "67890")}, api.ErrSize}, "200001 by a note's name": {heavy(199995), []api.Pair{note("123456", "")}, api.ErrSize}, "200001 of one key": {append(slices.Repeat([]api.Write{put("", long(20000))}, 10), gone("a")), nil, api.ErrSize}, "200000 of keys": {zeros(), nil, 0},
		"Gone with a Value": {[]api.Write{put("a", "b"), bad}, nil, api.ErrForm}, "that overtaken": {[]api.Write{bad, put("z", "")}, nil, api.ErrForm}, "Gone with an empty Value": {[]api.Write{{Key: []byte("a"), Value: []byte{}, Gone: true}}, nil, 0}, "bad, and too long": {[]api.Write{bad, put(long(401), "")}, nil, api.ErrSize}, "too long, and bad": {[]api.Write{put("", long(32769)), bad}, nil, api.ErrSize}, "bad, and a long note": {[]api.Write{bad}, []api.Pair{note(long(17), "")}, api.ErrSize}, "bad, and too much": {append(heavy(200001), bad), nil, api.ErrSize}, "bad, with a long Value": {[]api.Write{{Gone: true, Value: make([]byte, 32769)}}, nil, api.ErrSize}, "201 with a bad one": {append(many(200), bad), nil, api.ErrSize},
	} {
		d, p := disk.New(1<<22), newPlain()
		s := opens(t, d, lsm.Options{Mem: 1000, Block: 100, Fan: 2})
		collects(t, s, p, 3, 1)
		applies(t, s, p, 7, []api.Write{put("a", "x")}, note("n", "1"))
		for _, ts := range []uint64{2, 3, 7} {
			want := c.want
			if want == api.OK && ts < 3 {
				want = api.ErrOld
			}
			seq := s.Seq()
			if want == api.OK {
				applies(t, s, p, ts, c.writes, c.notes...)
				continue
			}
			if e := s.Apply(ts, c.writes, c.notes...); e != want || s.Seq() != seq {
				t.Errorf("%s: Apply = %v; want %v", what, e, want)
			}
		}
		agrees(t, what, s, p)
		agrees(t, what, opens(t, d, lsm.Options{}), p)
	}
}

func TestOldTimestamps(t *testing.T) { // P15.1, P15.2
	d, p := disk.New(100000), newPlain()
	s := opens(t, d, lsm.Options{})
	applies(t, s, p, 5, []api.Write{put("a", "x")})
	for _, low := range []uint64{0, 3, 2, 9, 8, 9, 1 << 63, 10, math.MaxUint64, 0} {
		collects(t, s, p, low, 1)
		agrees(t, "collected", s, p)
		for _, ts := range append([]uint64{p.low - 1, p.low}, times...) {
			e := s.Apply(ts, []api.Write{put("b", "y")}, note("n", fmt.Sprint(ts)))
			if ts < p.low {
				answers(t, "Apply below Low", e, api.ErrOld)
				continue
			}
			answers(t, "Apply", e, api.OK)
			p.apply(ts, []api.Write{put("b", "y")}, []api.Pair{note("n", fmt.Sprint(ts))})
		}
		agrees(t, "applied", s, p)
	}
	agrees(t, "opened", opens(t, d, lsm.Options{}), p)
}

func TestCollectArguments(t *testing.T) { // P15.2
	d, p := disk.New(100000), newPlain()
	s := opens(t, d, lsm.Options{})
	for i := range uint64(150) {
		applies(t, s, p, i, []api.Write{put("a", "x")})
	}
	for _, most := range []int{math.MinInt, -1, 0, 101, 1000, math.MaxInt} {
		seq := s.Seq()
		if n, e := s.Collect(9, most); n != 0 || e != api.ErrArg || s.Low() != 0 || s.Seq() != seq {
			t.Errorf("Collect(9, %d) = %d, %v", most, n, e)
		}
	}
	if n := collects(t, s, p, 149, 100); n != 100 {
		t.Errorf("Collect = %d", n)
	}
	if n := collects(t, s, p, 0, 1); n != 1 {
		t.Errorf("Collect = %d", n)
	}
	if n := collects(t, s, p, 149, 99); n != 48 {
		t.Errorf("Collect = %d", n)
	}
	agrees(t, "collected", s, p)
}

func TestWhatIsCollected(t *testing.T) { // P15.2: each beginning of a Collect, and each Low
	for low := range uint64(12) {
		for most := range 9 {
			d, p := disk.New(100000), newPlain()
			s := opens(t, d, lsm.Options{Mem: 200, Fan: 2})
			applies(t, s, p, 9, []api.Write{put("a", "9"), gone("b"), gone("ab"), gone("\xff")})
			applies(t, s, p, 5, []api.Write{gone("a"), put("b", "5"), gone("ab"), put("", "5")})
			applies(t, s, p, 3, []api.Write{put("a", "3"), gone("b"), gone("ab"), put("c", "")})
			applies(t, s, p, 2, []api.Write{gone("a"), gone("c")})
			for n := 1; n > 0; {
				n = collects(t, s, p, low, most+1)
				agrees(t, fmt.Sprintf("Collect(%d, %d)", low, most+1), s, p)
			}
			agrees(t, "opened", opens(t, d, lsm.Options{}), p)
		}
	}
}

// settled are the states through which a Settle goes, the last one too.
func settled(p *plain) []*plain {
	out := []*plain{p}
	for {
		next := out[len(out)-1].clone()
		if next.collect(0, 100) == 0 {
			return out
		}
		out = append(out, next)
	}
}

func TestSettle(t *testing.T) { // P15.2
	for _, n := range []int{0, 1, 99, 100, 101, 199, 200, 350} {
		d, p := disk.New(1<<22), newPlain()
		s := opens(t, d, lsm.Options{Mem: 2000, Fan: 3})
		for i := range n {
			applies(t, s, p, uint64(i/2), []api.Write{put(fmt.Sprint(i%2), "x"), gone(fmt.Sprint("g", i))}[:1+i%2])
		}
		seq := s.Seq()
		answers(t, "Settle at first", s.Settle(), api.OK)
		states := settled(p)
		if got := int(s.Seq() - seq); got != len(states)-1 {
			t.Errorf("a Settle of nothing made %d batches; want %d", got, len(states)-1)
		}
		p = states[len(states)-1]
		agrees(t, "settled at first", s, p)
		collects(t, s, p, uint64(n), 1)
		states = settled(p)
		seq = s.Seq()
		answers(t, "Settle", s.Settle(), api.OK)
		p = states[len(states)-1]
		if got := int(s.Seq() - seq); got != len(states)-1 {
			t.Errorf("a Settle made %d batches; want %d", got, len(states)-1)
		}
		agrees(t, "settled", s, p)
		if list, _ := s.Versions(); len(list) > 2 {
			t.Errorf("%d versions are left", len(list))
		}
		answers(t, "Settle again", s.Settle(), api.OK)
		agrees(t, "settled again", opens(t, d, lsm.Options{}), p)
	}
}

func TestDeadDisk(t *testing.T) { // P15.3
	for _, o := range kinds {
		d, p := disk.New(100000), newPlain()
		s := opens(t, d, o)
		applies(t, s, p, 5, []api.Write{put("a", "x"), put("b", "x")}, note("n", "1"))
		applies(t, s, p, 7, []api.Write{gone("a")})
		collects(t, s, p, 5, 1)
		d.Arm(0)
		for range 2 {
			answers(t, "Apply", s.Apply(9, []api.Write{put("a", "y")}), api.ErrDead)
			answers(t, "Apply of a note", s.Apply(9, nil, note("n", "2")), api.ErrDead)
			answers(t, "Apply below Low", s.Apply(4, []api.Write{put("a", "y")}), api.ErrDead) // the lesser error
			answers(t, "Apply of nothing below Low", s.Apply(4, nil), api.ErrOld)
			answers(t, "Apply of nothing", s.Apply(9, nil), api.OK)
			answers(t, "Apply of what is too long", s.Apply(9, []api.Write{put(long(401), "")}), api.ErrSize)
			answers(t, "Apply of what isn't in form", s.Apply(4, []api.Write{{Gone: true, Value: []byte("x")}}), api.ErrForm)
			for _, below := range []uint64{6, 7, 8} {
				if n, e := s.Collect(below, 10); n != 0 || e != api.ErrDead {
					t.Errorf("Collect(%d) = %d, %v", below, n, e)
				}
			}
			if n, e := s.Collect(8, 0); n != 0 || e != api.ErrArg {
				t.Errorf("Collect of 0 = %d, %v", n, e)
			}
			agrees(t, "dead", s, p)
		}
		d.Crash()
		s = opens(t, d, o)
		agrees(t, "crashed", s, p)
		collects(t, s, p, 7, 10)
		d.Arm(0)
		answers(t, "Settle", s.Settle(), api.ErrDead)
		agrees(t, "dead", s, p)
		d.Crash()
		agrees(t, "crashed", opens(t, d, o), p)
	}
}

// oneOf looks which of some states a store is in.
func oneOf(t *testing.T, what string, s Store, states ...*plain) *plain {
	t.Helper()
	found := states[0]
	for _, p := range states {
		list, _ := s.Versions()
		v, _, _ := s.Note([]byte("n"))
		if s.Low() == p.low && len(list) == len(p.there) && string(v) == p.notes["n"] {
			found = p
		}
	}
	agrees(t, what, s, found)
	return found
}

// step is one of a store's life: what it calls, and the states in which it may leave the store, the first one that ahead of it, the last one that behind it. With a Low above its timestamp it is refused.
type step struct {
	do   func(s Store) api.Errno
	make func(p *plain) []*plain
	ts   uint64
}

// applying is an Apply as a step.
func applying(ts uint64, writes []api.Write, notes ...api.Pair) step {
	return step{func(s Store) api.Errno { return s.Apply(ts, writes, notes...) }, func(p *plain) []*plain {
		next := p.clone()
		next.apply(ts, writes, notes)
		return []*plain{p, next}
	}, ts}
}

// collecting is a Collect as a step.
func collecting(below uint64, most int) step {
	return step{func(s Store) api.Errno { _, e := s.Collect(below, most); return e }, func(p *plain) []*plain {
		next := p.clone()
		next.collect(below, most)
		return []*plain{p, next}
	}, math.MaxUint64}
}

// settling is a Settle as a step.
func settling() step { return step{Store.Settle, settled, math.MaxUint64} }

// story are steps of a store's life; each note n is another one, so that one can tell its states apart.
func story() []step {
	var out []step
	for i := range uint64(8) {
		writes := []api.Write{put("a", fmt.Sprint(i)), gone(keys[i]), put(keys[(i*3+1)%8], fmt.Sprint("value ", i))}
		out = append(out, applying(i+2+i%3*2, writes, note("n", fmt.Sprint(i)), note(names[i%4], fmt.Sprint(i))))
		switch i {
		case 3, 6:
			out = append(out, collecting(i, 2))
		case 4:
			out = append(out, collecting(2, 100), settling())
		case 7:
			out = append(out, collecting(9, 1), settling())
		}
	}
	return out
}

func TestEachDeath(t *testing.T) { // P15.3
	whole, nothing := 0, 0
	for _, o := range kinds {
		for _, keeps := range [][]int{nil, {9}, {1000, 3, 17}} {
			for arm, died := 0, true; died; arm++ {
				what := fmt.Sprintf("%v, dead behind %d, kept %v", o, arm, keeps)
				d, p := disk.New(100000), newPlain()
				s := opens(t, d, o)
				d.Arm(arm)
				died = false
				for _, x := range story() {
					states := x.make(p)
					e := x.do(s)
					if e == api.OK {
						p = states[len(states)-1]
						continue
					}
					answers(t, what, e, api.ErrDead)
					oneOf(t, what, s, states[:max(len(states)-1, 1)]...)
					d.Crash(keeps...)
					s = opens(t, d, o)
					if p = oneOf(t, what, s, states...); p == states[0] {
						nothing++
					} else {
						whole++
					}
					died = true
					break
				}
				d.Arm(-1)
				applies(t, s, p, 1<<40, []api.Write{put("b", "behind it")}, note("n", "behind it"))
				collects(t, s, p, 1<<40, 100)
				d.Crash(keeps...)
				agrees(t, what, opens(t, d, o), p)
			}
		}
	}
	if whole == 0 || nothing == 0 {
		t.Errorf("the call in which it died was there %d times, and %d times not", whole, nothing)
	}
}

func TestEachKeptByte(t *testing.T) { // P15.3: of the call in which it died any beginning is kept
	whole := map[bool]int{}
	for _, x := range []step{applying(9, []api.Write{put("a", "new"), gone("b")}, note("n", "new")), collecting(8, 100)} {
		for arm := range 4 {
			for keep := range 110 {
				what := fmt.Sprintf("dead behind %d, kept %d", arm, keep)
				d, p := disk.New(100000), newPlain()
				s := opens(t, d, lsm.Options{Mem: 1000})
				applies(t, s, p, 5, []api.Write{put("a", "old"), put("b", "old")}, note("n", "old"))
				applies(t, s, p, 7, []api.Write{gone("a"), put("b", "newer")}, note("m", ""))
				d.Arm(arm)
				states := x.make(p)
				if x.do(s) == api.OK {
					states = states[1:]
				}
				d.Crash(keep)
				p = oneOf(t, what, opens(t, d, lsm.Options{Mem: 1000}), states...)
				whole[len(states) == 1 || p == states[1]]++
			}
		}
	}
	if whole[true] == 0 || whole[false] == 0 {
		t.Errorf("the call was there so often: %v", whole)
	}
}

// steps does a step whose disk doesn't die, and answers the state behind it.
func steps(t *testing.T, what string, s Store, p *plain, x step) (*plain, api.Errno) {
	t.Helper()
	states := x.make(p)
	last := len(states) - 1
	e := x.do(s)
	switch {
	case (e == api.ErrOld) != (x.ts < p.low):
		t.Fatalf("%s: at %d, with the Low %d: answers %v", what, x.ts, p.low, e)
	case e == api.ErrFull || e == api.ErrDead: // of a Settle's Collects the first ones may be done
		return oneOf(t, what, s, states[:max(last, 1)]...), e
	case e == api.OK:
		p = states[last]
	case e != api.ErrOld:
		t.Fatalf("%s: answers %v", what, e)
	}
	agrees(t, what, s, p)
	return p, e
}

func TestFullDisk(t *testing.T) { // P15.3: what finds no room has changed nothing
	for _, o := range kinds {
		full := map[api.Errno]int{}
		for room := 0; room < 2000; room += 83 {
			d, p := disk.New(room), newPlain()
			s := opens(t, d, o)
			for i, x := range slices.Concat(story(), story()[:3], []step{collecting(20, 100), settling()}) {
				var e api.Errno
				p, e = steps(t, fmt.Sprintf("room %d, step %d", room, i), s, p, x)
				full[e]++
			}
			agrees(t, "opened", opens(t, d, o), p)
		}
		if full[api.ErrFull] < 10 || full[api.OK] < 10 {
			t.Errorf("the steps answered %v", full)
		}
	}
}

// anyStep is a step of which some numbers tell.
func anyStep(r *rand.Rand) step {
	ts := times[r.IntN(6)]
	switch r.IntN(8) {
	case 0:
		return collecting(ts, r.IntN(4)+1)
	case 1:
		return collecting(times[r.IntN(4)], 100)
	case 2:
		return settling()
	}
	var writes []api.Write
	for range r.IntN(4) {
		key := keys[r.IntN(len(keys))]
		if r.IntN(3) == 0 {
			writes = append(writes, gone(key))
		} else {
			writes = append(writes, put(key, long(r.IntN(20))))
		}
	}
	notes := []api.Pair{note("n", fmt.Sprint(r.Uint32()))} // by it the states are told apart
	for range r.IntN(2) {
		notes = append(notes, note(names[r.IntN(len(names))], long(r.IntN(9))))
	}
	return applying(ts, writes, notes...)
}

// play does a script's steps, each of two bytes, on a store and on a plain one.
func play(t *testing.T, room int, o lsm.Options, script []byte) {
	d, p := disk.New(room), newPlain()
	s := opens(t, d, o)
	for i := 0; i+1 < len(script); i += 2 {
		op, arg := script[i]%16, int(script[i+1])
		what := fmt.Sprintf("%v, room %d, the step %d: %d %d", o, room, i, op, arg)
		states := []*plain{p}
		switch op {
		case 12:
			d.Arm(arg % 12)
		case 13:
			d.Crash(arg)
			s = opens(t, d, o)
		case 14:
			s.Flush()
		case 15:
			s.Compact(arg % 3)
		default:
			x := anyStep(rand.New(rand.NewPCG(uint64(arg), uint64(i))))
			states = x.make(p)
			p, _ = steps(t, what, s, p, x)
		}
		if d.Dead() {
			d.Crash([]int{arg, arg / 3, arg * 7}[:arg%4%3]...)
			s = opens(t, d, o)
			p = oneOf(t, what, s, states...)
		} else if op >= 12 {
			agrees(t, what, s, p)
		}
	}
	d.Crash()
	agrees(t, "at the end", opens(t, d, o), p)
}

func TestAnyCalls(t *testing.T) { // P15.1, P15.2, P15.3
	for seed := range uint64(60) {
		r := rand.New(rand.NewPCG(seed, 15))
		script := make([]byte, 2*40)
		for i := range script {
			script[i] = byte(r.Uint32())
		}
		room := []int{1 << 20, 2500, 1 << 20, 6000}[seed%4]
		play(t, room, kinds[int(seed/4)%len(kinds)], script)
	}
}

// FuzzPlay: as TestAnyCalls, with scripts that are looked for.
func FuzzPlay(f *testing.F) { // P1, P15.1, P15.2, P15.3
	f.Add([]byte{0, 1, 1, 2, 12, 4, 2, 3, 0, 5, 13, 7, 14, 0, 3, 9, 15, 1, 0, 11}, uint16(3000), uint8(1))
	f.Fuzz(func(t *testing.T, script []byte, room uint16, kind uint8) {
		play(t, int(room), kinds[int(kind)%len(kinds)], script[:min(len(script), 2*30)])
	})
}

func TestAnyArguments(t *testing.T) { // P1
	lists := [][]byte{nil, {}, {0}, []byte("a"), []byte(lowName), {255}, {0, 1}, make([]byte, 400), make([]byte, 401), make([]byte, 1025), make([]byte, 100000)}
	s := opens(t, disk.New(1<<21), lsm.Options{Mem: 1000, Block: 100, Fan: 2})
	for i, ts := range append(slices.Clone(times), 7, 0) {
		for _, key := range lists {
			for _, other := range lists {
				w := api.Write{Key: key, Value: other}
				s.Apply(ts, []api.Write{w, {Key: other, Gone: true}}, api.Pair{Key: key, Value: other})
				s.Apply(ts, []api.Write{w, {Key: key, Value: other, Gone: true}})
				s.Apply(ts, slices.Repeat([]api.Write{w}, 201))
				s.Apply(ts, nil, api.Pair{Key: other, Value: key})
				s.Read(key, ts)
				s.Scan(key, other, ts)
				s.Note(key)
			}
		}
		s.Versions()
		s.Low()
		for _, most := range []int{math.MinInt, -1, 0, 1, 100, 101, math.MaxInt} {
			s.Collect(times[i%len(times)]/2, most)
		}
		answers(t, "Settle", s.Settle(), api.OK)
	}
}

func TestForeignBytes(t *testing.T) { // P1: what else somebody has written to the engine is nothing, or is refused as no version
	whole := plainKey(at{"a", 5})
	for what, w := range map[string]api.Write{
		"a key without an end": put("ua", "\x01"), "a key that isn't in form": put("u\x00\x07\x00\x01", "\x01"), "no timestamp": put("ua\x00\x01", "\x01"), "a short timestamp": put(whole[:len(whole)-1], "\x01"), "a long one": put(whole+"\x00", "\x01"),
		"no value's mark": put(whole, ""), "another mark": put(whole, "\x02x"), "more behind a mark": put(whole, "\x00x"),
	} {
		s := opens(t, disk.New(10000), lsm.Options{})
		answers(t, "Apply", s.Apply(5, []api.Write{put("", "x"), put("b", "x")}), api.OK)
		if _, e := s.Write(w); e != api.OK {
			t.Fatalf("Write = %v", e)
		}
		list, e := s.Versions()
		pairs, e2 := s.Scan(nil, nil, 5)
		n, e3 := s.Collect(5, 1)
		if list != nil || pairs != nil || n != 0 || e != api.ErrForm || e2 != api.ErrForm || e3 != api.ErrForm || s.Low() != 0 {
			t.Errorf("%s: Versions = %v, %v; Scan = %v, %v; Collect = %d, %v", what, list, e, pairs, e2, n, e3)
		}
		answers(t, what, s.Settle(), api.ErrForm)
		if v, ok, e := s.Read([]byte("b"), 5); string(v) != "x" || !ok || e != api.OK {
			t.Errorf("%s: Read = %q, %v, %v", what, v, ok, e)
		}
		if v, ok, e := s.Read([]byte("a"), 5); v != nil || ok || e != api.OK && e != api.ErrForm {
			t.Errorf("%s: Read = %q, %v, %v", what, v, ok, e)
		}
	}
	s, p := opens(t, disk.New(10000), lsm.Options{}), newPlain()
	applies(t, s, p, 5, []api.Write{put("a", "x")})
	for _, key := range []string{"", "\x00", "t", "t\xff", "v", "l", "m" + lowName, "m" + lowName + "x", "n", "\xff"} {
		s.Write(put(key, "x"))
	}
	list, e := s.Versions()
	if v, ok, e2 := s.Read([]byte("a"), 5); string(v) != "x" || !ok || len(list) != 1 || e != api.OK || e2 != api.OK || s.Low() != 0 {
		t.Errorf("beside foreign keys: Read = %q, %v, %v; Versions = %v, %v; Low = %d", v, ok, e2, list, e, s.Low())
	}
}

// roomy is a copy with spare room.
func roomy(b []byte) []byte { return append(slices.Clone(b), 0, 1, 2, 255)[:len(b)] }

// fill writes over a list, its spare room too.
func fill(b []byte) {
	b = b[:cap(b)]
	for i := range b {
		b[i] = 77
	}
}

// untouched looks whether bytes that were handed in are as they were, and writes over them.
func untouched(t *testing.T, what string, b, want []byte) {
	t.Helper()
	if !bytes.Equal(b[:len(b)+4], append(slices.Clone(want), 0, 1, 2, 255)) {
		t.Fatalf("%s has changed %q", what, want)
	}
	fill(b)
}

func TestMemoryOfArguments(t *testing.T) { // P15.4
	for _, o := range kinds {
		d, p := disk.New(100000), newPlain()
		s := opens(t, d, o)
		for i := range uint64(8) {
			var writes, was []api.Write
			for j := range 3 {
				w := put(keys[(int(i)+j)%len(keys)], fmt.Sprint("value ", i, j))
				if (int(i)+j)%3 == 0 {
					w = gone(string(w.Key))
				}
				was = append(was, w)
				writes = append(writes, api.Write{Key: roomy(w.Key), Value: roomy(w.Value), Gone: w.Gone})
			}
			writes = append(writes, put("spare", "room"))[:3]
			own := note(names[i%5], fmt.Sprint("note ", i))
			notes := append([]api.Pair{{Key: roomy(own.Key), Value: roomy(own.Value)}}, note("spare", "room"))[:1]
			applies(t, s, p, i, writes, notes...)
			for j, w := range writes {
				untouched(t, "Apply", w.Key, was[j].Key)
				untouched(t, "Apply", w.Value, was[j].Value)
			}
			untouched(t, "Apply", notes[0].Key, own.Key)
			untouched(t, "Apply", notes[0].Value, own.Value)
			if string(writes[:4][3].Key) != "spare" || string(notes[:2][1].Key) != "spare" {
				t.Fatalf("Apply has changed a list's spare room")
			}
			clear(writes[:cap(writes)])
			clear(notes[:cap(notes)])
			agrees(t, "arguments written over", s, p)
		}
		from, to, name := roomy([]byte("a")), roomy([]byte("c")), roomy([]byte("n"))
		s.Read(from, 5)
		s.Scan(from, to, 5)
		s.Note(name)
		untouched(t, "Read or Scan", from, []byte("a"))
		untouched(t, "Scan", to, []byte("c"))
		untouched(t, "Note", name, []byte("n"))
		agrees(t, "opened", opens(t, d, o), p)
	}
}

func TestMemoryOfAnswers(t *testing.T) { // P15.4
	for _, o := range kinds {
		d, p := disk.New(100000), newPlain()
		s := opens(t, d, o)
		for i := range uint64(8) {
			applies(t, s, p, i, []api.Write{put(keys[i], fmt.Sprint("value ", i)), put("c", fmt.Sprint("again ", i)), gone(keys[(i+5)%8])}, note(names[i%7], fmt.Sprint(i)))
		}
		collects(t, s, p, 3, 2)
		for range 2 {
			for _, name := range names {
				one, _, _ := s.Note([]byte(name))
				two, _, _ := s.Note([]byte(name))
				if fill(one); string(two) != p.notes[name] {
					t.Fatalf("two Notes share memory: %q", two)
				}
				fill(two)
			}
			for ts := p.low; ts < 9; ts++ {
				spoilAt(t, s, p, ts)
			}
			one, _ := s.Versions()
			two, _ := s.Versions()
			for i := range one {
				fill(one[i].Key)
				if !bytes.Equal(one[i].Value, two[i].Value) {
					t.Fatalf("a version's key shares memory with its value")
				}
				fill(one[i].Value)
				for j, v := range one[i+1:] {
					if w := two[i+1+j]; !bytes.Equal(v.Key, w.Key) || !bytes.Equal(v.Value, w.Value) {
						t.Fatalf("two versions share memory")
					}
				}
			}
			clear(one[:cap(one)])
			agrees(t, "answers written over", s, p)
			answers(t, "Flush", s.Flush(), api.OK)
		}
		agrees(t, "opened", opens(t, d, o), p)
	}
}

// spoilAt writes over all that a store answers at a timestamp.
func spoilAt(t *testing.T, s Store, p *plain, ts uint64) {
	t.Helper()
	for _, key := range keys {
		one, _, _ := s.Read([]byte(key), ts)
		two, _, _ := s.Read([]byte(key), ts)
		want, _ := p.read(key, ts)
		if fill(one); string(two) != want {
			t.Fatalf("two Reads share memory: %q", two)
		}
		fill(two)
	}
	want := p.scan("", "", ts)
	one, _ := s.Scan(nil, nil, ts)
	two, _ := s.Scan(nil, nil, ts)
	for i := range one {
		fill(one[i].Key)
		if !bytes.Equal(one[i].Value, want[i].Value) {
			t.Fatalf("a pair's key shares memory with its value")
		}
		fill(one[i].Value)
		if !same(one[i+1:], want[i+1:]) {
			t.Fatalf("two pairs share memory")
		}
	}
	clear(one[:cap(one)])
	if !same(two, want) {
		t.Fatalf("two Scans share memory: %q", two)
	}
	clear(two[:cap(two)])
}

func TestEmbedded(t *testing.T) { // P15.1: a store is its engine, and any store of it is the same
	d, p := disk.New(10000), newPlain()
	s := opens(t, d, lsm.Options{Mem: 1000})
	other := Of(s.Engine)
	applies(t, s, p, 5, []api.Write{put("a", "x")}, note("n", "1"))
	agrees(t, "another store of the engine", other, p)
	collects(t, other, p, 9, 1)
	agrees(t, "the engine's first store", s, p)
	if s.Seq() != 2 || other.Pin() != 2 || s.Unpin(2) != api.OK || s.Dead() {
		t.Errorf("the engine's calls aren't the store's")
	}
}
