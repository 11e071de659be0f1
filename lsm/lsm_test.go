package lsm

import (
	"bytes"
	"cmp"
	"fmt"
	"maps"
	"math"
	"math/rand/v2"
	"regexp"
	"slices"
	"strings"
	"testing"

	"caisson/api"
	"caisson/crc"
	"caisson/disk"
	"caisson/manifest"
)

// put is a Write of a value.
func put(key, value string) api.Write { return api.Write{Key: []byte(key), Value: []byte(value)} }

// gone is a Write that takes a key's value away.
func gone(key string) api.Write { return api.Write{Key: []byte(key), Gone: true} }

// plain is an engine by the words of the document: its batches, the first one first, and how often each moment is pinned.
type plain struct {
	batches [][]api.Write
	pins    map[uint64]int
}

func (p *plain) now() uint64 { return uint64(len(p.batches)) }

func (p *plain) add(batch []api.Write) {
	var own []api.Write
	for _, w := range batch {
		own = append(own, api.Write{Key: bytes.Clone(w.Key), Value: bytes.Clone(w.Value), Gone: w.Gone})
	}
	p.batches = append(p.batches, own)
}

func (p *plain) pin() {
	if p.pins == nil {
		p.pins = map[uint64]int{}
	}
	p.pins[p.now()]++
}

// state: what has a value behind so many batches.
func (p *plain) state(at uint64) map[string]string {
	out := map[string]string{}
	for _, batch := range p.batches[:at] {
		for _, w := range batch {
			if w.Gone {
				delete(out, string(w.Key))
			} else {
				out[string(w.Key)] = string(w.Value)
			}
		}
	}
	return out
}

// between: the pairs of a state with keys from from on and below to.
func between(state map[string]string, from, to string) []api.Pair {
	var out []api.Pair
	for _, key := range slices.Sorted(maps.Keys(state)) {
		if key >= from && (to == "" || key < to) {
			out = append(out, api.Pair{Key: []byte(key), Value: []byte(state[key])})
		}
	}
	return out
}

// same: are these alike, an empty list and nil too?
func same(a, b []api.Pair) bool {
	return slices.EqualFunc(a, b, func(x, y api.Pair) bool { return bytes.Equal(x.Key, y.Key) && bytes.Equal(x.Value, y.Value) })
}

// keys are those that are written and asked for.
var keys = []string{"", "\x00", "a", "a\x00", "a\x01", "ab", "b", "c", "\xff", "\xff\xff"}

// others are never written.
var others = []string{"\x00\x00", "a\x00\x00", "aa", "abc", "bb", "d", "\xfe", "\xff\x00", strings.Repeat("\xff", 3000), strings.Repeat("a", 3000)}

// ranges are some of which all is asked for.
var ranges = [][2]string{{"", "\x00"}, {"", "b"}, {"\x00", "a"}, {"a", ""}, {"a", "a"}, {"a", "a\x00"}, {"a\x00", "ac"}, {"aa", "c"}, {"b", "a"}, {"c", "\xff"}, {"\xff", ""}, {"\xff\xff", "\xff"}, {"\xff\xff\x00", ""}}

// agrees looks whether an engine says what its batches say.
func agrees(t *testing.T, what string, g *Engine, p *plain) {
	t.Helper()
	if g.Seq() != p.now() {
		t.Fatalf("%s: Seq = %d; want %d", what, g.Seq(), p.now())
	}
	for at := range p.now() + 2 {
		if at != p.now() && p.pins[at] == 0 {
			isOld(t, what, g, at)
			continue
		}
		agreesAt(t, what, g, p.state(at), at)
	}
	isOld(t, what, g, math.MaxUint64)
	if len(g.Tables()) != 4 {
		t.Fatalf("%s: Tables = %v", what, g.Tables())
	}
}

// isOld looks whether nothing is said of a moment.
func isOld(t *testing.T, what string, g *Engine, at uint64) {
	t.Helper()
	v, ok, e := g.Get([]byte("a"), at)
	list, e2 := g.Scan(nil, nil, at)
	if v != nil || ok || list != nil || e != api.ErrOld || e2 != api.ErrOld {
		t.Fatalf("%s: at %d: Get = %q, %v, %v; Scan = %q, %v", what, at, v, ok, e, list, e2)
	}
	view := View{Engine: g, At: at}
	v, ok, e = view.Value([]byte("a"))
	list, e2 = view.All()
	if v != nil || ok || list != nil || e != api.ErrOld || e2 != api.ErrOld {
		t.Fatalf("%s: at %d: Value = %q, %v, %v; All = %q, %v", what, at, v, ok, e, list, e2)
	}
}

// agreesAt looks whether an engine says of a moment what was then.
func agreesAt(t *testing.T, what string, g *Engine, state map[string]string, at uint64) {
	t.Helper()
	view := View{Engine: g, At: at}
	for _, key := range slices.Concat(keys, others) {
		want, there := state[key]
		v, ok, e := g.Get([]byte(key), at)
		if string(v) != want || ok != there || e != api.OK || !ok && v != nil {
			t.Fatalf("%s: Get(%q, %d) = %q, %v, %v; want %q, %v", what, key, at, v, ok, e, want, there)
		}
		if v, ok, e := view.Value([]byte(key)); string(v) != want || ok != there || e != api.OK || !ok && v != nil {
			t.Fatalf("%s: Value(%q) at %d = %q, %v, %v; want %q, %v", what, key, at, v, ok, e, want, there)
		}
	}
	for _, r := range ranges {
		list, e := g.Scan([]byte(r[0]), []byte(r[1]), at)
		if want := between(state, r[0], r[1]); e != api.OK || !same(list, want) {
			t.Fatalf("%s: Scan(%q, %q, %d) = %q, %v; want %q", what, r[0], r[1], at, list, e, want)
		}
	}
	all, e := view.All()
	scanned, e2 := g.Scan(nil, nil, at)
	if want := between(state, "", ""); e != api.OK || e2 != api.OK || !same(all, want) || !same(scanned, want) {
		t.Fatalf("%s: All at %d = %q, %v; want %q", what, at, all, e, want)
	}
}

// answers looks whether a call answers this error.
func answers(t *testing.T, what string, got, want api.Errno) {
	t.Helper()
	if got != want {
		t.Fatalf("%s = %v; want %v", what, got, want)
	}
}

// opens opens the engine that is there, which has these batches.
func opens(t *testing.T, d *disk.Disk, o Options, p *plain) *Engine {
	t.Helper()
	g, e := Open(d, "x", o)
	if g == nil || e != api.OK {
		t.Fatalf("Open = %v, %v", g, e)
	}
	p.pins = nil
	agrees(t, "Open", g, p)
	inOrder(t, g)
	return g
}

// writes writes a batch, which fits.
func writes(t *testing.T, g *Engine, p *plain, batch ...api.Write) {
	t.Helper()
	seq, e := g.Write(batch...)
	if len(batch) > 0 {
		p.add(batch)
	}
	if seq != p.now() || e != api.OK {
		t.Fatalf("Write = %d, %v; want %d", seq, e, p.now())
	}
}

// files are all files of a disk, with their bytes.
func files(d *disk.Disk) map[string]string {
	out := map[string]string{}
	for _, name := range d.List("") {
		b, _ := d.Read(name)
		out[name] = string(b)
	}
	return out
}

// killed is a dead disk with the same files.
func killed(d *disk.Disk) *disk.Disk {
	d = d.Twin()
	d.Arm(0)
	d.Append("x", nil)
	return d
}

// lies puts a file on a disk, and makes it safe.
func lies(d *disk.Disk, name string, b []byte) {
	d.Append(name, b)
	d.Sync(name)
}

// ofTable tells, behind the prefix, the names of tables and of what is to be one.
var ofTable = regexp.MustCompile(`^t\.(0|[1-9][0-9]*)(\.new)?$`)

// inOrder looks whether an engine's files are just those of its version and of its logs, and whether it says of its tables what the version does.
func inOrder(t *testing.T, g *Engine) {
	t.Helper()
	want := map[string]int{}
	levels := []int{0, 0, 0, 0}
	for _, f := range g.files.Files {
		want[fmt.Sprintf("%st.%d", g.prefix, f.Num)] = 1
		levels[f.Level]++
	}
	if !slices.Equal(g.Tables(), levels) {
		t.Fatalf("Tables = %v; want %v", g.Tables(), levels)
	}
	for _, name := range g.List(g.prefix + "t.") {
		if ofTable.MatchString(name[len(g.prefix):]) { // else it is somebody else's
			want[name]--
		}
	}
	for name, n := range want {
		if n != 0 {
			t.Fatalf("%q is there or is named too often: the disk has %q; the version names %v", name, g.List(g.prefix), g.files.Files)
		}
	}
	if !manifest.Right(g.files.Version) {
		t.Fatalf("the version isn't right: %v", g.files.Version)
	}
}

// kinds are options of which some flush and merge at each Write, and some never.
var kinds = []Options{{}, {Mem: math.MinInt, Block: -1, Fan: -7}, {Mem: 40, Block: 20, Fan: 1}, {Mem: 60, Block: 1, Fan: 2}, {Mem: 150, Block: 100, Fan: 3}, {Mem: 400, Block: 1 << 30, Fan: 1}, {Mem: 5000, Block: 64, Fan: 2}, {Mem: math.MaxInt, Block: math.MaxInt, Fan: math.MaxInt}, {Mem: 30, Block: 30, Fan: math.MaxInt}}

func TestExamples(t *testing.T) { // P13.1
	for _, o := range kinds {
		d, p := disk.New(100000), &plain{}
		g := opens(t, d, o, p)
		if seq, e := g.Write(put("a", "x"), put("b", "y")); seq != 1 || e != api.OK {
			t.Errorf("Write = %d, %v", seq, e)
		}
		if seq, e := g.Write(gone("a")); seq != 2 || e != api.OK {
			t.Errorf("Write = %d, %v", seq, e)
		}
		if v, ok, e := g.Get([]byte("a"), 2); len(v) != 0 || ok || e != api.OK {
			t.Errorf("Get(a, 2) = %q, %v, %v", v, ok, e)
		}
		if _, _, e := g.Get([]byte("a"), 1); e != api.ErrOld {
			t.Errorf("Get(a, 1) = %v", e)
		}
		if list, e := g.Scan(nil, nil, 2); e != api.OK || !same(list, []api.Pair{{Key: []byte("b"), Value: []byte("y")}}) {
			t.Errorf("Scan = %q, %v", list, e)
		}
		if seq, e := g.Write(put("a", "x"), put("a", "y")); seq != 3 || e != api.OK {
			t.Errorf("Write = %d, %v", seq, e)
		}
		if v, ok, e := g.Get([]byte("a"), 3); string(v) != "y" || !ok || e != api.OK {
			t.Errorf("Get(a, 3) = %q, %v, %v", v, ok, e)
		}
		if seq, e := g.Write(api.Write{Key: []byte("a"), Gone: true, Value: []byte("z")}); seq != 0 || e != api.ErrForm || g.Seq() != 3 {
			t.Errorf("Write = %d, %v; Seq = %d", seq, e, g.Seq())
		}
	}
}

func TestLaterWritesHold(t *testing.T) { // P13.1: of several writes to a key in one batch
	for _, o := range kinds {
		d, p := disk.New(100000), &plain{}
		g := opens(t, d, o, p)
		for _, batch := range [][]api.Write{
			{put("a", "1"), put("b", "1"), put("a", "2")}, {gone("a"), put("a", "3"), gone("b"), gone("c")}, {put("a", "4"), gone("a"), put("b", "2"), put("", "")}, {gone(""), put("", "x"), put("", "y"), gone("")}, {put("a", "5"), put("a", "5"), put("a", "")}, {gone("a"), gone("a")},
		} {
			g.Pin()
			p.pin()
			writes(t, g, p, batch...)
			agrees(t, "written", g, p)
		}
		g.Flush()
		agrees(t, "flushed", g, p)
		opens(t, d, o, p)
	}
}

// many are n writes to keys of their own.
func many(n int) []api.Write {
	var out []api.Write
	for i := range n {
		out = append(out, put(fmt.Sprintf("a%04d", i), fmt.Sprint(i)))
	}
	return out
}

// long is a text of n bytes.
func long(n int) string { return strings.Repeat("k", n) }

// heavy is a batch whose keys and values have n bytes together, above 1000.
func heavy(n int) []api.Write {
	var out []api.Write
	for i := 0; n > 0; i++ {
		size := min(n, 60000)
		if n-size < 1000 && n > size { // what is left has room for a key
			size -= 1000
		}
		key := fmt.Sprintf("h%03d", i)
		out = append(out, put(key, long(size-len(key))))
		n -= size
	}
	return out
}

func TestLimitsOfBatches(t *testing.T) { // P13.1
	bad := api.Write{Key: []byte("z"), Value: []byte("z"), Gone: true}
	for what, c := range map[string]struct {
		batch []api.Write
		want  api.Errno
	}{
		"256 writes": {many(256), 0}, "257": {many(257), api.ErrSize}, "256 alike": {slices.Repeat([]api.Write{put("a", "b")}, 256), 0}, "257 alike": {slices.Repeat([]api.Write{put("a", "b")}, 257), api.ErrSize}, "5000": {many(5000), api.ErrSize},
		"a key of 1024": {[]api.Write{put(long(1024), "v")}, 0}, "of 1025": {[]api.Write{put(long(1025), "v")}, api.ErrSize}, "1025 gone": {[]api.Write{put("a", "b"), gone(long(1025))}, api.ErrSize}, "1024 gone": {[]api.Write{gone(long(1024))}, 0},
		"a value of 65536": {[]api.Write{put("", long(65536))}, 0}, "of 65537": {[]api.Write{put("", long(65537))}, api.ErrSize}, "65537, then overtaken": {[]api.Write{put("a", long(65537)), put("a", "")}, api.ErrSize},
		"800000 bytes": {heavy(800000), 0}, "800001": {heavy(800001), api.ErrSize}, "800001 of one key": {slices.Repeat([]api.Write{put("a", long(50000))}, 16), api.ErrSize}, "799999": {heavy(799999), 0},
		"Gone with a Value": {[]api.Write{put("a", "b"), bad}, api.ErrForm}, "that overtaken": {[]api.Write{bad, put("z", "b")}, api.ErrForm}, "Gone with an empty Value": {[]api.Write{{Key: []byte("a"), Value: []byte{}, Gone: true}}, 0},
		"257 with one bad": {append(many(256), bad), api.ErrSize}, "256 with one bad": {append(many(255), bad), api.ErrForm}, "bad, and one too long": {[]api.Write{bad, put(long(1025), "")}, api.ErrSize}, "one too long, and bad": {[]api.Write{put("", long(65537)), bad}, api.ErrSize}, "bad, with a Value too long": {[]api.Write{{Gone: true, Value: make([]byte, 65537)}}, api.ErrSize}, "bad, and too much": {append(heavy(800001), bad), api.ErrSize},
		"an empty write": {[]api.Write{{}}, 0}, "none": {nil, 0}, "an empty list": {[]api.Write{}, 0},
	} {
		for _, o := range []Options{{Mem: 100, Block: 1000, Fan: 2}, {Mem: 1 << 30, Block: 1, Fan: 1}} {
			d, p := disk.New(1<<24), &plain{}
			g := opens(t, d, o, p)
			writes(t, g, p, put("b", "y"))
			was := files(d)
			if c.want == api.OK {
				writes(t, g, p, c.batch...)
				agrees(t, what, g, p)
				answers(t, what+": Flush", g.Flush(), api.OK)
				answers(t, what+": Compact", g.Compact(0), api.OK)
			} else {
				for _, refuses := range []*Engine{g, {Disk: killed(d), log: g.log, seq: 1}} { // of a dead disk, too: those errors are less than ErrDead
					if seq, e := refuses.Write(c.batch...); seq != 0 || e != c.want {
						t.Errorf("%s: Write = %d, %v", what, seq, e)
					}
				}
				if !maps.Equal(files(d), was) {
					t.Errorf("%s: a refused Write has changed the disk", what)
				}
			}
			agrees(t, what, g, p)
			opens(t, d, o, p)
		}
	}
}

func TestNoWrites(t *testing.T) { // P13.1
	d, p := disk.New(10000), &plain{}
	g := opens(t, d, Options{}, p)
	for n := range uint64(3) {
		d.Arm(0)
		was := files(d)
		if seq, e := g.Write(); seq != n || e != api.OK || d.Dead() || !maps.Equal(files(d), was) {
			t.Errorf("Write of none = %d, %v", seq, e)
		}
		d.Arm(-1)
		writes(t, g, p, put("a", "b"))
	}
	d.Arm(0)
	if _, e := g.Write(put("a", "c")); e != api.ErrDead {
		t.Errorf("Write = %v", e)
	}
	if seq, e := g.Write([]api.Write{}...); seq != 3 || e != api.OK {
		t.Errorf("Write of none on a dead disk = %d, %v", seq, e)
	}
}

func TestPins(t *testing.T) { // P13.1
	for _, o := range kinds {
		d, p := disk.New(100000), &plain{}
		g := opens(t, d, o, p)
		for _, seq := range []uint64{0, 1, math.MaxUint64} {
			answers(t, "Unpin of what isn't pinned", g.Unpin(seq), api.ErrNone)
		}
		for i := range 6 {
			for range i % 3 {
				if at := g.Pin(); at != uint64(i) {
					t.Fatalf("Pin = %d; want %d", at, i)
				}
				p.pin()
			}
			writes(t, g, p, put("a", fmt.Sprint(i)), put(keys[i], "x"), gone(keys[(i+3)%6]))
			agrees(t, "written", g, p)
		}
		for _, seq := range []uint64{2, 5, 0, 3, 1, 2, 2, 5, 4, 5, 1, 6, 7} {
			want := api.OK
			if p.pins[seq] == 0 {
				want = api.ErrNone
			} else {
				p.pins[seq]--
			}
			answers(t, fmt.Sprintf("Unpin(%d)", seq), g.Unpin(seq), want)
			agrees(t, "unpinned", g, p)
			answers(t, "Flush", g.Flush(), api.OK)
			for level := range 3 {
				answers(t, "Compact", g.Compact(level), api.OK)
			}
			agrees(t, "merged", g, p)
		}
	}
}

func TestPinnedDeletes(t *testing.T) { // P13.1: what hides an older value is kept as long as that is there, and where it is asked for
	for order := range 8 {
		d, p := disk.New(100000), &plain{}
		g := opens(t, d, Options{Mem: 1 << 20, Block: 1, Fan: 100}, p)
		step := func(flush bool, batch ...api.Write) {
			writes(t, g, p, batch...)
			g.Pin()
			p.pin()
			if flush {
				answers(t, "Flush", g.Flush(), api.OK)
			}
			agrees(t, "a step", g, p)
		}
		step(true, put("a", "1"), put("b", "1"), put("c", "1"))
		answers(t, "Compact", g.Compact(0), api.OK)
		answers(t, "Compact", g.Compact(1), api.OK)
		answers(t, "Compact", g.Compact(2), api.OK)
		step(order&1 > 0, gone("a"), put("b", "2"))
		step(order&2 > 0, gone("b"), put("c", "2"))
		step(order&4 > 0, put("a", "4"), gone("c"))
		for seq := range uint64(5) {
			for level := range 3 {
				answers(t, "Flush", g.Flush(), api.OK)
				answers(t, "Compact", g.Compact(level), api.OK)
				agrees(t, "merged", g, p)
			}
			if seq > 0 {
				answers(t, "Unpin", g.Unpin(seq), api.OK)
				p.pins[seq]--
			}
		}
		writes(t, g, p, gone("a"))
		answers(t, "Flush", g.Flush(), api.OK)
		for level := range 3 {
			answers(t, "Compact", g.Compact(level), api.OK)
		}
		agrees(t, "all gone", g, p)
		if !slices.Equal(g.Tables(), make([]int, 4)) {
			t.Errorf("of nothing there are the tables %v", g.Tables())
		}
		opens(t, d, Options{}, p)
	}
}

func TestDeletesOfTheNextLevel(t *testing.T) { // P13.1: what a table of the next level hides stays hidden, be it far from all keys of the level
	for _, far := range []string{"", "z"} {
		for deep := range 3 {
			d, p := disk.New(100000), &plain{}
			g := opens(t, d, Options{Mem: 1 << 20, Block: 1, Fan: 100}, p)
			sink := func(levels int, batch ...api.Write) {
				t.Helper()
				writes(t, g, p, batch...)
				answers(t, "Flush", g.Flush(), api.OK)
				for level := range levels {
					answers(t, "Compact", g.Compact(level), api.OK)
				}
				agrees(t, "merged", g, p)
			}
			sink(3, put(far, "old"))
			sink(deep, put("a", "1"), put("c", "1"), gone(far))
			sink(max(deep-1, 0), put("b", "1"))
			answers(t, "Compact", g.Compact(max(deep-1, 0)), api.OK)
			agrees(t, "merged", g, p)
			opens(t, d, Options{}, p)
		}
	}
}

func TestLevels(t *testing.T) { // P13.1
	d, p := disk.New(100000), &plain{}
	o := Options{Mem: 1 << 20, Block: 10, Fan: 100}
	g := opens(t, d, o, p)
	has := func(want ...int) {
		t.Helper()
		agrees(t, "levels", g, p)
		inOrder(t, g)
		g = opens(t, d, o, p)
		if !slices.Equal(g.Tables(), want) {
			t.Fatalf("Tables = %v; want %v", g.Tables(), want)
		}
	}
	answers(t, "Flush of nothing", g.Flush(), api.OK)
	for _, level := range []int{-1, 3, 4, math.MinInt, math.MaxInt} {
		answers(t, fmt.Sprintf("Compact(%d)", level), g.Compact(level), api.ErrArg)
	}
	for level := range 3 {
		answers(t, "Compact of nothing", g.Compact(level), api.OK)
	}
	if has(0, 0, 0, 0); len(files(d)) != 0 {
		t.Errorf("of nothing there is %q", d.List(""))
	}
	for i := range 3 {
		writes(t, g, p, put("b", fmt.Sprint(i)), put(keys[i], "x"))
		answers(t, "Flush", g.Flush(), api.OK)
		answers(t, "Flush of nothing", g.Flush(), api.OK)
		has(i+1, 0, 0, 0)
	}
	answers(t, "Compact", g.Compact(1), api.OK)
	has(3, 0, 0, 0)
	answers(t, "Compact", g.Compact(0), api.OK)
	has(0, 1, 0, 0)
	writes(t, g, p, put("a", "y"), gone("b"))
	answers(t, "Flush", g.Flush(), api.OK)
	answers(t, "Compact", g.Compact(1), api.OK)
	has(1, 0, 1, 0)
	answers(t, "Compact", g.Compact(0), api.OK)
	has(0, 1, 1, 0)
	answers(t, "Compact", g.Compact(2), api.OK)
	has(0, 1, 0, 1)
	writes(t, g, p, put("c", "far from the others"))
	answers(t, "Flush", g.Flush(), api.OK)
	answers(t, "Compact", g.Compact(0), api.OK)
	has(0, 2, 0, 1) // the keys of both don't touch
	answers(t, "Compact", g.Compact(1), api.OK)
	answers(t, "Compact", g.Compact(2), api.OK)
	has(0, 0, 0, 1)
}

func TestDeadDisk(t *testing.T) { // P13.2
	for _, o := range kinds {
		d, p := disk.New(100000), &plain{}
		g := opens(t, d, o, p)
		for i := range 5 {
			writes(t, g, p, put(keys[i], "x"), put("c", fmt.Sprint(i)))
			g.Pin()
			p.pin()
		}
		tables := g.Tables()
		d.Arm(0)
		for range 3 {
			if seq, e := g.Write(put("a", "y")); seq != 0 || e != api.ErrDead {
				t.Errorf("Write = %d, %v", seq, e)
			}
			answers(t, "Flush", g.Flush(), api.ErrDead)
			for level := range 3 {
				answers(t, "Compact", g.Compact(level), api.ErrDead)
			}
			answers(t, "Compact(3)", g.Compact(3), api.ErrArg)
			if g2, e := Open(d, "x", o); g2 != nil || e != api.ErrDead {
				t.Errorf("Open = %v, %v", g2, e)
			}
			agrees(t, "dead", g, p) // what it says doesn't change
			if !slices.Equal(g.Tables(), tables) {
				t.Errorf("Tables = %v; want %v", g.Tables(), tables)
			}
		}
		d.Crash()
		opens(t, d, o, p)
	}
}

func TestStrays(t *testing.T) { // P13.1
	for _, o := range kinds {
		d, p := disk.New(100000), &plain{}
		g := opens(t, d, o, p)
		for i := range 7 {
			writes(t, g, p, put(keys[i], "x"), put("c", fmt.Sprint(i)))
		}
		answers(t, "Flush", g.Flush(), api.OK)
		want := files(d)
		stray := []string{"xt.77", "xt.1000000", "xt.18446744073709551615", "xt.77.new", "xt.999.new"}
		for _, f := range g.files.Files {
			stray = append(stray, fmt.Sprintf("xt.%d.new", f.Num))
		}
		for _, name := range stray {
			lies(d, name, []byte("stray"))
		}
		for _, name := range []string{"xt.", "xt.077", "xt.00", "xt.+7", "xt.-1", "xt. 7", "xt.7 ", "xt.7.new.new", "xt.new", "xt..new", "xt.07.new", "xt.7new", "xt.0x7", "xt.1_0", "xt.\xff", "xt77", "Xt.77", "t.77", "yt.77", "xt", "x", "", "xu.77", "xm.", "xw.", "xm.77", "xw.77", "xw.77.new", "xxt.77", "xt.t.77"} {
			lies(d, name, []byte("of somebody else"))
			want[name] = "of somebody else"
		}
		for dies := range len(stray) {
			d.Arm(dies)
			if g, e := Open(d, "x", o); g != nil || e != api.ErrDead {
				t.Fatalf("Open that dies behind %d = %v, %v", dies, g, e)
			}
			d.Crash()
			for _, name := range stray { // those that are gone are put back
				if _, e := d.Read(name); e != api.OK {
					lies(d, name, []byte("stray"))
				}
			}
		}
		g = opens(t, d, o, p)
		if got := files(d); !maps.Equal(got, want) {
			t.Errorf("Open leaves %q; want %q", d.List(""), slices.Sorted(maps.Keys(want)))
		}
		writes(t, g, p, put("a", "z"))
		answers(t, "Flush", g.Flush(), api.OK)
		opens(t, d, o, p)
	}
}

// refused looks whether an Open answers an error, and whether it leaves the disk as it is.
func refused(t *testing.T, what string, d *disk.Disk, want api.Errno) {
	t.Helper()
	was := files(d)
	if g, e := Open(d, "x", Options{}); g != nil || e != want {
		t.Fatalf("%s: Open = %v, %v; want %v", what, g, e, want)
	}
	if !maps.Equal(files(d), was) {
		t.Fatalf("%s: Open has changed the disk", what)
	}
}

// told is an engine with two tables, and batches in its log, upon this disk.
func told(t *testing.T, d *disk.Disk) *plain {
	t.Helper()
	p := &plain{}
	g := opens(t, d, Options{Mem: 1 << 20, Block: 10, Fan: 9}, p)
	writes(t, g, p, put("a", "1"), put("b", "2"))
	answers(t, "Flush", g.Flush(), api.OK)
	writes(t, g, p, put("a", "1"), put("b", "3"))
	answers(t, "Flush", g.Flush(), api.OK)
	writes(t, g, p, put("c", "4"))
	writes(t, g, p, gone("a"), put("\xff", ""))
	agrees(t, "told", g, p)
	return p
}

func TestSpoiltTables(t *testing.T) { // P13.1
	d := disk.New(100000)
	p := told(t, d)
	tables := d.List("xt.")
	if len(tables) != 2 {
		t.Fatalf("there are the tables %q", tables)
	}
	for _, name := range tables {
		b, _ := d.Read(name)
		for at := range b {
			spoilt := d.Twin()
			spoilt.Remove(name)
			c := slices.Clone(b)
			c[at] ^= 1 << (at % 8)
			lies(spoilt, name, c)
			lies(spoilt, "xt.99", []byte("a stray stays where nothing is opened"))
			refused(t, fmt.Sprintf("the byte %d of %s", at, name), spoilt, api.ErrForm)
			refused(t, "on a dead disk", killed(spoilt), api.ErrDead)
		}
		for _, c := range [][]byte{nil, b[:1], b[:len(b)-1], append(slices.Clone(b), 0), slices.Repeat(b, 2)} {
			spoilt := d.Twin()
			spoilt.Remove(name)
			lies(spoilt, name, c)
			refused(t, "a table of another length", spoilt, api.ErrForm)
		}
		lost := d.Twin()
		lost.Remove(name)
		refused(t, "a lost table", lost, api.ErrForm)
	}
	opens(t, d, Options{}, p)
}

func TestOtherTables(t *testing.T) { // P13.1: a table that is whole, but not the one that the version names
	tell := func(value string, batch ...api.Write) (*disk.Disk, string) {
		d := disk.New(100000)
		g, _ := Open(d, "x", Options{Mem: 1 << 20, Block: 10, Fan: 9})
		g.Write(append(batch, put("k", value))...)
		g.Flush()
		return d, d.List("xt.")[0]
	}
	d, name := tell("v", put("i", ""), put("m", ""))
	for what, other := range map[string][]api.Write{
		"one entry more": {put("i", ""), put("j", ""), put("m", "")}, "one entry less": {put("m", "")}, "an earlier First": {put("h", ""), put("m", "")}, "a later First": {put("j", ""), put("m", "")}, "an earlier Last": {put("i", ""), put("l", "")}, "a later Last": {put("i", ""), put("n", "")}, "both": {put("h", ""), put("n", "")},
	} {
		from, path := tell("v", other...)
		b, _ := from.Read(path)
		spoilt := d.Twin()
		spoilt.Remove(name)
		lies(spoilt, name, b)
		refused(t, what, spoilt, api.ErrForm)
	}
	from, path := tell("longer", put("i", ""), put("m", ""))
	b, _ := from.Read(path)
	d.Remove(name)
	lies(d, name, b)
	refused(t, "another Size", d, api.ErrForm)
}

// sealed is the record of some bytes.
func sealed(b []byte) []byte {
	out, _ := crc.Seal(b)
	return out
}

func TestSpoiltLogs(t *testing.T) { // P13.1
	d := disk.New(100000)
	p := told(t, d)
	last := func(prefix string) string {
		all := d.List(prefix)
		return all[len(all)-1]
	}
	next := []api.Entry{{Key: []byte("a"), Seq: 5, Kind: api.Put}}
	for what, record := range map[string][]byte{
		"nothing": nil, "junk": []byte("junk"), "an even number of parts": {1, 5, 2, 1, 'a'}, "a Seq of two": {2, 5, 5, 2, 1, 'a', 0}, "a Seq that ends": {1, 128, 2, 1, 'a', 0}, "an empty head": {1, 5, 0, 0}, "no Seq": {0, 2, 1, 'a', 0},
		"a later Seq": encode(6, next), "no writes": encode(5, nil), "the kind 0": encode(5, []api.Entry{{Key: []byte("a")}}), "the kind 3": encode(5, []api.Entry{{Key: []byte("a"), Kind: 3}}), "a Delete with a Value": encode(5, []api.Entry{{Key: []byte("a"), Kind: api.Delete, Value: []byte("v")}}), "a key twice": encode(5, append(next, next...)), "a key too long": encode(5, []api.Entry{{Key: make([]byte, 1025), Kind: api.Put}}), "a value too long": encode(5, []api.Entry{{Kind: api.Put, Value: make([]byte, 65537)}}),
	} {
		spoilt := d.Twin()
		lies(spoilt, last("xw."), sealed(record))
		refused(t, what, spoilt, api.ErrForm)
		refused(t, what+", on a dead disk", killed(spoilt), api.ErrDead)
	}
	lost := d.Twin()
	b, _ := lost.Read(last("xw."))
	_, marker, _ := crc.Open(b, 0)
	_, first, _ := crc.Open(b, marker)
	lost.Remove(last("xw."))
	lies(lost, last("xw."), b[first:])
	refused(t, "a log without the first batch that isn't in tables", lost, api.ErrForm)
	junk := d.Twin()
	lies(junk, last("xm."), sealed([]byte("junk")))
	refused(t, "a manifest with junk", junk, api.ErrForm)
	forgot := d.Twin()
	forgot.Remove(last("xm."))
	refused(t, "no manifest", forgot, api.ErrForm)
	again := d.Twin()
	lies(again, last("xw."), sealed(encode(5, next)))
	p.add([]api.Write{put("a", "")})
	opens(t, again, Options{}, p)
}

func TestTornLog(t *testing.T) { // P13.2: a record that isn't whole is no batch
	d := disk.New(100000)
	p := told(t, d)
	name := d.List("xw.")[0]
	record := sealed(encode(5, []api.Entry{{Key: []byte("a"), Kind: api.Put, Value: []byte("new")}}))
	for size := range len(record) + 1 {
		torn := d.Twin()
		torn.Append(name, record[:size])
		q := &plain{batches: slices.Clone(p.batches)}
		if size == len(record) {
			q.add([]api.Write{put("a", "new")})
		}
		g := opens(t, torn, Options{Mem: 1000}, q)
		writes(t, g, q, put("b", "newer"))
		agrees(t, "torn", g, q)
		torn.Crash()
		opens(t, torn, Options{}, q)
	}
}

func TestPrefixes(t *testing.T) { // P13.1: engines on one disk are each for themselves
	d := disk.New(1 << 20)
	prefixes := []string{"", "t.", "t", "m.", "w.", "t.t.", "t.1", "x", "X", "a/b/", "\xff\x00"}
	o := Options{Mem: 20, Block: 10, Fan: 1}
	told := map[string]*plain{}
	for round := range 3 {
		for i, prefix := range prefixes {
			if round == 0 {
				told[prefix] = &plain{}
			}
			p := told[prefix]
			p.pins = nil
			g, e := Open(d, prefix, o)
			if e != api.OK {
				t.Fatalf("Open under %q = %v", prefix, e)
			}
			agrees(t, "opened", g, p)
			for j := range i + 2 {
				writes(t, g, p, put(keys[j%len(keys)], prefix+fmt.Sprint(round)), gone(keys[(i+j)%len(keys)]))
			}
			answers(t, "Flush", g.Flush(), api.OK)
			agrees(t, "written", g, p)
			inOrder(t, g)
		}
	}
	for _, name := range d.List("") {
		mine := false
		for _, prefix := range prefixes {
			rest, ok := strings.CutPrefix(name, prefix)
			mine = mine || ok && (strings.HasPrefix(rest, "t.") || strings.HasPrefix(rest, "m.") || strings.HasPrefix(rest, "w."))
		}
		if !mine {
			t.Errorf("the disk has %q", name)
		}
	}
}

func TestEmptyDisk(t *testing.T) { // P13.1, P13.3: an Open writes nothing there
	for _, o := range kinds {
		for _, d := range []*disk.Disk{disk.New(0), {}, disk.New(100)} {
			d.Arm(0)
			p := &plain{}
			g := opens(t, d, o, p)
			opens(t, d, o, p)
			answers(t, "Flush", g.Flush(), api.OK)
			answers(t, "Compact", g.Compact(2), api.OK)
			if d.Dead() || len(d.List("")) > 0 {
				t.Errorf("of nothing there is %q", d.List(""))
			}
		}
	}
	d, p := disk.New(0), &plain{}
	g := opens(t, d, Options{}, p)
	for range 3 {
		if seq, e := g.Write(put("", "")); seq != 0 || e != api.ErrFull {
			t.Errorf("Write = %d, %v", seq, e)
		}
		agrees(t, "no room", g, p)
	}
}

// fits: is there room for one more batch's record?
func fits(d *disk.Disk, room int, seq uint64, batch []api.Write) bool {
	return d.Used()+len(sealed(encode(seq, entries(seq, batch)))) <= room
}

func TestFullDisk(t *testing.T) { // P13.3
	for _, o := range kinds {
		for room := 20; room < 1500; room += 61 {
			d, p := disk.New(room), &plain{}
			g := opens(t, d, o, p)
			refusals := 0
			for i := 0; refusals < 5; i++ {
				batch := []api.Write{put(keys[i%len(keys)], long(i%40)), gone(keys[(i*i)%len(keys)]), put(fmt.Sprint(i), "x")}
				was, used := files(d), d.Used()
				seq, e := g.Write(batch...)
				if e == api.OK {
					p.add(batch)
				} else if refusals++; e != api.ErrFull || seq != 0 || !maps.Equal(files(d), was) || d.Used() != used || fits(d, room, p.now()+1, batch) {
					t.Fatalf("Write = %d, %v; %d of %d bytes are used", seq, e, used, room)
				}
				if g.Seq() != p.now() {
					t.Fatalf("Seq = %d; want %d", g.Seq(), p.now())
				}
			}
			agrees(t, "full", g, p)
			for call := range 8 {
				was, tables := files(d), g.Tables()
				e := g.Flush
				if call%4 > 0 {
					e = func() api.Errno { return g.Compact(call%4 - 1) }
				}
				if e := e(); e != api.OK && (e != api.ErrFull || !maps.Equal(files(d), was) || !slices.Equal(g.Tables(), tables)) {
					t.Fatalf("the call %d = %v; the disk has %q, the levels %v", call, e, d.List(""), g.Tables())
				}
				inOrder(t, g)
				agrees(t, "full", g, p)
			}
			g = opens(t, d, o, p)
			if d.Crash(); true {
				g = opens(t, d, o, p)
			}
			if batch := []api.Write{put("a", "z")}; fits(d, room, p.now()+1, batch) {
				writes(t, g, p, batch...)
				agrees(t, "room again", g, p)
			}
		}
	}
}

func TestFullAndDying(t *testing.T) { // P13.2, P13.3: the disk dies while what found no room is taken back
	batch := []api.Write{put("a", long(100)), put("b", "x")}
	answered := map[api.Errno]int{}
	for room := range 700 {
		for arm := range 9 {
			d, p := disk.New(room), &plain{}
			g := opens(t, d, Options{Mem: 1 << 20}, p)
			if !fits(d, room, 1, batch) {
				break
			}
			writes(t, g, p, batch...)
			d.Arm(arm)
			e := g.Flush()
			if answered[e]++; e != api.OK && e != api.ErrFull && e != api.ErrDead || d.Dead() != (e == api.ErrDead) {
				t.Fatalf("Flush = %v; is the disk dead: %v", e, d.Dead())
			}
			agrees(t, "flushed", g, p)
			d.Crash(arm * 7)
			crashed(t, "crashed", d, Options{}, p, nil)
		}
	}
	if len(answered) != 3 {
		t.Errorf("Flush answered %v", answered)
	}
}

func TestRoomComesBack(t *testing.T) { // P13.3: what no moment needs any more takes no room for long
	for _, o := range []Options{{}, {Mem: 40, Block: 20, Fan: 1}, {Mem: 300, Block: 100, Fan: 2}, {Mem: 1000, Block: 64, Fan: 3}} {
		d, p := disk.New(12000), &plain{}
		g := opens(t, d, o, p)
		for i := range 1500 {
			if seq, e := g.Write(put(keys[i%len(keys)], fmt.Sprint(i)), gone(keys[(i*7+3)%len(keys)])); seq != uint64(i+1) || e != api.OK {
				t.Fatalf("Write = %d, %v: %d bytes are used, of %d files", seq, e, d.Used(), len(d.List("")))
			}
			if g.Tables()[0] > max(o.Fan, 1) {
				t.Fatalf("Tables = %v", g.Tables())
			}
			p.add([]api.Write{put(keys[i%len(keys)], fmt.Sprint(i)), gone(keys[(i*7+3)%len(keys)])})
			if i%97 == 0 {
				g, _ = Open(d, "x", o)
			}
		}
		agreesAt(t, "written", g, p.state(p.now()), p.now())
		inOrder(t, g)
	}
}

func TestGreatBatches(t *testing.T) { // P13.1: more is in memory than goes into one table
	for _, o := range []Options{{Mem: 1 << 30, Block: 1000, Fan: 9}, {Mem: 1 << 30, Block: 1, Fan: 1}, {Mem: 1 << 30, Block: 1 << 30, Fan: 1}} {
		d, p := disk.New(1<<26), &plain{}
		g := opens(t, d, o, p)
		for i := range 4 {
			batch := heavy(799000)
			batch[3].Value[i] = 'x'
			writes(t, g, p, append(batch, put("a", fmt.Sprint(i)))...)
		}
		answers(t, "Flush", g.Flush(), api.OK)
		if g.Tables()[0] < 1 || len(d.List("xw.")) != 1 {
			t.Errorf("Tables = %v; the log has %q", g.Tables(), d.List("xw."))
		}
		agreesAt(t, "flushed", g, p.state(4), 4)
		inOrder(t, g)
		writes(t, g, p, many(256)...)
		writes(t, g, p, heavy(800000)...)
		answers(t, "Flush", g.Flush(), api.OK)
		for level := range 3 {
			answers(t, "Compact", g.Compact(level), api.OK)
			inOrder(t, g)
			if g.Tables()[level] != 0 {
				t.Errorf("Tables = %v", g.Tables())
			}
			agreesAt(t, "merged", g, p.state(6), 6)
		}
		g = opens(t, d, o, p)
		agreesAt(t, "opened", g, p.state(6), 6)
	}
}

func TestManySmallEntries(t *testing.T) { // P13.1: what a table takes besides keys and values is more than these
	d, state := disk.New(1<<25), map[string]string{}
	o := Options{Mem: 1 << 30, Block: 1, Fan: 9}
	g, e := Open(d, "x", o)
	answers(t, "Open", e, api.OK)
	for i := range 120 {
		var batch []api.Write
		for j := range 256 {
			key := string([]byte{byte(j), byte(i)})
			batch = append(batch, put(key, ""))
			state[key] = ""
		}
		if _, e := g.Write(batch...); e != api.OK {
			t.Fatalf("Write = %v", e)
		}
	}
	answers(t, "Flush", g.Flush(), api.OK)
	if g.Tables()[0] < 2 {
		t.Errorf("Tables = %v", g.Tables())
	}
	for level := range 3 {
		inOrder(t, g)
		answers(t, "Compact", g.Compact(level), api.OK)
	}
	g, e = Open(d, "x", o)
	answers(t, "Open", e, api.OK)
	agreesAt(t, "small entries", g, state, 120)
}

func TestManyVersionsOfAKey(t *testing.T) { // P13.1: more versions of a key are needed than go into one table
	d, p := disk.New(1<<27), &plain{}
	o := Options{Mem: 1 << 30, Block: 1000, Fan: 100}
	g := opens(t, d, o, p)
	for i := range 40 {
		g.Pin()
		p.pin()
		writes(t, g, p, put("k", fmt.Sprint(i)+long(65000)), put(keys[i%len(keys)], fmt.Sprint(i)))
		if i == 25 {
			answers(t, "Flush", g.Flush(), api.OK)
			if g.Tables()[0] < 2 {
				t.Errorf("Tables = %v", g.Tables())
			}
		}
	}
	says := func() {
		t.Helper()
		for at := range p.now() + 1 {
			v, ok, e := g.Get([]byte("k"), at)
			want, there := p.state(at)["k"]
			if p.pins[at] == 0 && at < p.now() {
				if e != api.ErrOld {
					t.Fatalf("Get at %d = %v", at, e)
				}
				continue
			}
			if string(v) != want || ok != there || e != api.OK {
				t.Fatalf("Get at %d: %d bytes, %v, %v", at, len(v), ok, e)
			}
		}
		agreesAt(t, "now", g, p.state(p.now()), p.now())
		inOrder(t, g)
	}
	merge := func() {
		t.Helper()
		for level := range 3 {
			answers(t, "Compact", g.Compact(level), api.OK)
			says()
		}
	}
	says()
	answers(t, "Flush", g.Flush(), api.OK)
	merge()
	for at := range uint64(40) {
		if at%3 > 0 {
			answers(t, "Unpin", g.Unpin(at), api.OK)
			p.pins[at]--
		}
	}
	merge()
	if want := []int{0, 0, 0, 1}; !slices.Equal(g.Tables(), want) {
		t.Errorf("of what goes into one table there are %v", g.Tables())
	}
	for i := range 30 {
		writes(t, g, p, put("k", fmt.Sprint(i)+long(60000)))
		g.Pin()
		p.pin()
	}
	answers(t, "Flush", g.Flush(), api.OK)
	merge()
	if g = opens(t, d, o, p); g.Seq() != 70 {
		t.Errorf("Seq = %d", g.Seq())
	}
	merge()
	if want := []int{0, 0, 0, 1}; !slices.Equal(g.Tables(), want) {
		t.Errorf("of what nobody needs there are %v", g.Tables())
	}
}

func TestViews(t *testing.T) { // P13.4
	d, p := disk.New(100000), &plain{}
	g := opens(t, d, Options{Mem: 50, Block: 10, Fan: 1}, p)
	var views []View
	for i := range 9 {
		writes(t, g, p, put(keys[i%4], fmt.Sprint(i)), gone(keys[(i+1)%4]))
		views = append(views, View{Engine: g, At: g.Pin()})
		p.pin()
	}
	for i, v := range views {
		if v.At != uint64(i+1) || v.Seq() != 9 || v.Engine != g {
			t.Errorf("the view %d: At = %d, Seq = %d", i, v.At, v.Seq())
		}
		want := p.state(v.At)
		if all, e := v.All(); e != api.OK || !same(all, between(want, "", "")) {
			t.Errorf("All at %d = %q, %v", v.At, all, e)
		}
		for _, key := range keys {
			value, ok, e := v.Value([]byte(key))
			if text, there := want[key]; string(value) != text || ok != there || e != api.OK {
				t.Errorf("Value(%q) at %d = %q, %v, %v", key, v.At, value, ok, e)
			}
		}
		if list, e := v.Scan([]byte("a"), nil, 9); e != api.OK || !same(list, between(p.state(9), "a", "")) {
			t.Errorf("a view's Scan = %q, %v", list, e)
		}
	}
	if seq, e := views[0].Write(put("b", "by a view")); seq != 10 || e != api.OK || g.Seq() != 10 {
		t.Errorf("a view's Write = %d, %v", seq, e)
	}
	p.add([]api.Write{put("b", "by a view")})
	answers(t, "a view's Unpin", views[2].Unpin(4), api.OK)
	p.pins[4]--
	agrees(t, "by views", g, p)
	if all, e := views[3].All(); all != nil || e != api.ErrOld {
		t.Errorf("All at an old moment = %q, %v", all, e)
	}
	if v, ok, e := views[3].Value(nil); v != nil || ok || e != api.ErrOld {
		t.Errorf("Value at an old moment = %q, %v, %v", v, ok, e)
	}
	g.Pin()
	if later := (View{g, 11}); true {
		if _, e := later.All(); e != api.ErrOld {
			t.Errorf("All at a moment that is to come = %v", e)
		}
		writes(t, g, p, put("", "now"))
		if all, e := later.All(); e != api.OK || !same(all, between(p.state(11), "", "")) {
			t.Errorf("All = %q, %v", all, e)
		}
	}
}

func TestEmbedded(t *testing.T) { // an engine has its disk and its options
	d := disk.New(100)
	g, _ := Open(d, "x", Options{Mem: 7, Block: -3})
	if g.Disk != d || g.Options != (Options{Mem: 7, Block: 1, Fan: 1}) || g.Mem != 7 || g.Block != 1 || g.Fan != 1 {
		t.Errorf("the engine has %v", g.Options)
	}
}

// story are steps of an engine's life, each with the batch that it writes.
func story() []func(g *Engine) ([]api.Write, api.Errno) {
	var out []func(g *Engine) ([]api.Write, api.Errno)
	call := func(do func(g *Engine) api.Errno) {
		out = append(out, func(g *Engine) ([]api.Write, api.Errno) { return nil, do(g) })
	}
	for i := range 14 {
		batch := []api.Write{put(keys[i%7], fmt.Sprint("value ", i)), gone(keys[(i*3+1)%7]), put("c", fmt.Sprint(i))}
		out = append(out, func(g *Engine) ([]api.Write, api.Errno) {
			_, e := g.Write(batch...)
			return batch, e
		})
		switch i {
		case 2, 5, 6, 10:
			call((*Engine).Flush)
		case 3, 7, 11:
			call(func(g *Engine) api.Errno { return g.Compact(0) })
		case 8, 12:
			call(func(g *Engine) api.Errno { return g.Compact(1) })
		case 4, 13:
			call(func(g *Engine) api.Errno { return g.Compact(2) })
		}
	}
	return out
}

// crashed opens an engine behind a crash: it has the batches, and perhaps the one in which it died.
func crashed(t *testing.T, what string, d *disk.Disk, o Options, p *plain, dying []api.Write) *Engine {
	t.Helper()
	g, e := Open(d, "x", o)
	if e != api.OK {
		t.Fatalf("%s: Open = %v", what, e)
	}
	if len(dying) > 0 && g.Seq() == p.now()+1 {
		p.add(dying)
	}
	p.pins = nil
	agrees(t, what, g, p)
	inOrder(t, g)
	return g
}

func TestEachDeath(t *testing.T) { // P13.2
	for _, o := range kinds {
		for _, keeps := range [][]int{nil, {9}, {math.MaxInt}, {1000, 3, 17}} {
			died := true
			for arm := 0; died; arm++ {
				what := fmt.Sprintf("%v, dead behind %d, kept %v", o, arm, keeps)
				d, p := disk.New(100000), &plain{}
				g := opens(t, d, o, p)
				d.Arm(arm)
				died = false
				for _, step := range story() {
					batch, e := step(g)
					if e != api.OK {
						answers(t, what, e, api.ErrDead)
						agrees(t, what, g, p)
						d.Crash(keeps...)
						diesInOpen(t, d, o, keeps)
						g, died = crashed(t, what, d, o, p, batch), true
						break
					}
					if len(batch) > 0 {
						p.add(batch)
					}
				}
				d.Arm(-1)
				writes(t, g, p, put("b", "behind it"))
				answers(t, what, g.Flush(), api.OK)
				answers(t, what, g.Compact(0), api.OK)
				d.Crash(keeps...)
				crashed(t, what, d, o, p, nil)
			}
		}
	}
}

// diesInOpen opens an engine again and again, and the disk dies in it, as far as it does anything.
func diesInOpen(t *testing.T, d *disk.Disk, o Options, keeps []int) {
	t.Helper()
	for dies := range 3 {
		d.Arm(dies)
		g, e := Open(d, "x", o)
		if e == api.OK {
			d.Arm(-1)
			return
		}
		if g != nil || e != api.ErrDead {
			t.Fatalf("Open that dies = %v, %v", g, e)
		}
		d.Crash(keeps...)
	}
}

func TestEachKeptByte(t *testing.T) { // P13.2: of the batch in which it died any beginning is kept
	batch := []api.Write{put("a", "new"), gone("b"), put("c", "new")}
	whole := map[bool]int{}
	for _, o := range []Options{{}, {Mem: 1000}} {
		for arm := range 12 {
			for keep := range 60 {
				what := fmt.Sprintf("%v, dead behind %d, kept %d", o, arm, keep)
				d, p := disk.New(100000), &plain{}
				g := opens(t, d, o, p)
				writes(t, g, p, put("a", "old"), put("b", "old"))
				d.Arm(arm)
				_, e := g.Write(batch...)
				if e == api.OK {
					p.add(batch)
				}
				d.Crash(keep)
				crashed(t, what, d, o, p, batch)
				whole[p.now() == 2]++
				g = crashed(t, what, d, o, p, nil)
				writes(t, g, p, put("b", "newer"))
				agrees(t, what, g, p)
			}
		}
	}
	if whole[true] == 0 || whole[false] == 0 {
		t.Errorf("the batch was there so often: %v", whole)
	}
}

// anyBatch is some batch.
func anyBatch(r *rand.Rand) []api.Write {
	var out []api.Write
	for range r.IntN(4) + 1 {
		key := keys[r.IntN(len(keys))]
		switch r.IntN(6) {
		case 0, 1:
			out = append(out, gone(key))
		case 2:
			out = append(out, put(key, ""))
		case 3:
			out = append(out, put(key, long(r.IntN(200))))
		default:
			out = append(out, put(key, fmt.Sprint(r.IntN(1000))))
		}
	}
	return out
}

// play does a script's calls, each of two bytes, on an engine and on a plain one.
func play(t *testing.T, room int, o Options, script []byte) {
	d, p := disk.New(room), &plain{}
	g := opens(t, d, o, p)
	for i := 0; i+1 < len(script); i += 2 {
		op, arg := script[i]%16, int(script[i+1])
		what := fmt.Sprintf("%v, %d of %d bytes are used, the step %d: %d %d", o, d.Used(), room, i, op, arg)
		r := rand.New(rand.NewPCG(uint64(arg), uint64(i)))
		was, tables := files(d), g.Tables()
		var batch []api.Write
		e := api.OK
		switch op {
		default:
			batch = anyBatch(r)
			_, e = g.Write(batch...)
			if e == api.OK {
				p.add(batch)
			}
			if e == api.ErrFull && fits(d, room, p.now()+1, batch) {
				t.Fatalf("%s: there is room for %v", what, batch)
			}
		case 8, 9:
			g.Pin()
			p.pin()
		case 10:
			at := uint64(arg) % (p.now() + 1)
			answersUnpin(t, what, g, p, at)
		case 11:
			e = g.Flush()
		case 12:
			e = g.Compact(arg % 3)
		case 13:
			g = crashed(t, what, d, o, p, nil)
		case 14:
			d.Arm(arg % 12)
		case 15:
			d.Crash(arg)
			g = crashed(t, what, d, o, p, nil)
		}
		switch {
		case e == api.ErrDead && d.Dead():
			agrees(t, what, g, p)
			d.Crash([]int{arg, arg / 3, arg * 7}[:arg%4%3]...)
			diesInOpen(t, d, o, []int{arg})
			g = crashed(t, what, d, o, p, batch)
		case e == api.ErrFull && (!maps.Equal(files(d), was) || !slices.Equal(g.Tables(), tables)), e != api.OK && e != api.ErrFull:
			t.Fatalf("%s: answers %v; the disk has %q, the levels %v", what, e, d.List(""), g.Tables())
		}
		agrees(t, what, g, p)
		inOrder(t, g)
	}
	d.Crash()
	crashed(t, "at the end", d, o, p, nil)
}

// answersUnpin unpins a moment, if it is pinned.
func answersUnpin(t *testing.T, what string, g *Engine, p *plain, at uint64) {
	t.Helper()
	if p.pins[at] == 0 {
		answers(t, what, g.Unpin(at), api.ErrNone)
		return
	}
	answers(t, what, g.Unpin(at), api.OK)
	p.pins[at]--
}

func TestAnyCalls(t *testing.T) { // P13.1, P13.2, P13.3
	for seed := range uint64(360) {
		r := rand.New(rand.NewPCG(seed, 13))
		script := make([]byte, 2*50)
		for i := range script {
			script[i] = byte(r.Uint32())
		}
		room := []int{1 << 20, 1500, 1 << 20, 4000}[seed%4]
		play(t, room, kinds[int(seed/4)%len(kinds)], script)
	}
}

// FuzzPlay: as TestAnyCalls, with scripts that are looked for.
func FuzzPlay(f *testing.F) { // P1, P13.1, P13.2, P13.3
	f.Add([]byte{0, 1, 8, 0, 1, 2, 11, 0, 3, 3, 12, 0, 14, 4, 0, 9, 12, 1, 15, 7, 10, 1, 13, 0}, uint16(2000), uint8(2))
	f.Fuzz(func(t *testing.T, script []byte, room uint16, kind uint8) {
		play(t, int(room), kinds[int(kind)%len(kinds)], script[:min(len(script), 2*40)])
	})
}

func TestAnyArguments(t *testing.T) { // P1
	lists := [][]byte{nil, {}, {0}, []byte("a"), []byte("b"), {255}, make([]byte, 1024), make([]byte, 1025), make([]byte, 100000)}
	numbers := []int{math.MinInt, -1, 0, 1, 2, 3, 4, 1 << 31, math.MaxInt}
	for _, mem := range numbers {
		for _, block := range numbers {
			for _, fan := range numbers {
				d := disk.New(5000)
				g, e := Open(d, "x", Options{Mem: mem, Block: block, Fan: fan})
				if e != api.OK {
					t.Fatalf("Open = %v", e)
				}
				p := &plain{}
				for i := range 6 {
					writes(t, g, p, put(keys[i%3], fmt.Sprint(i)), gone(keys[i%4]))
				}
				agrees(t, "any options", g, p)
			}
		}
	}
	g, _ := Open(disk.New(1<<21), "x", Options{Mem: 100, Block: 10, Fan: 1})
	for _, key := range lists {
		for _, other := range lists {
			g.Write(api.Write{Key: key, Value: other}, api.Write{Key: other, Gone: true}, api.Write{Key: key, Value: other, Gone: true})
			g.Write(api.Write{Key: key, Value: other}, api.Write{Key: other, Gone: true})
			for _, at := range []uint64{0, 1, g.Seq() - 1, g.Seq(), g.Seq() + 1, math.MaxUint64} {
				g.Get(key, at)
				g.Scan(key, other, at)
				g.Unpin(at)
				View{g, at}.Value(key)
				View{g, at}.All()
			}
		}
	}
	for _, level := range numbers {
		g.Compact(level)
	}
}

// roomy is a copy with spare room.
func roomy(b []byte) []byte { return append(slices.Clone(b), 0, 1, 2, 255)[:len(b)] }

// fill writes over a list, its spare room too.
func fill(b []byte) {
	b = b[:cap(b)]
	for i := range b {
		b[i] = 77
	}
}

func TestMemoryOfArguments(t *testing.T) { // P13.5
	for _, o := range kinds {
		d, p := disk.New(100000), &plain{}
		prefix := []byte("x")
		g, e := Open(d, string(prefix), o)
		if e != api.OK {
			t.Fatalf("Open = %v", e)
		}
		for i := range 8 {
			var batch, was []api.Write
			for j := range 3 {
				w := put(keys[(i+j)%len(keys)], fmt.Sprint("value ", i, j))
				if (i+j)%3 == 0 {
					w = gone(string(w.Key))
				}
				was = append(was, w)
				batch = append(batch, api.Write{Key: roomy(w.Key), Value: roomy(w.Value), Gone: w.Gone})
			}
			batch = append(batch, put("spare", "room"))[:3]
			writes(t, g, p, batch...)
			for j, w := range batch {
				if w.Gone != was[j].Gone || !bytes.Equal(w.Key[:len(w.Key)+4], append(was[j].Key, 0, 1, 2, 255)) || !bytes.Equal(w.Value[:len(w.Value)+4], append(was[j].Value, 0, 1, 2, 255)) {
					t.Fatalf("Write has changed %v", w)
				}
				fill(w.Key)
				fill(w.Value)
			}
			if w := batch[:4][3]; string(w.Key) != "spare" || string(w.Value) != "room" {
				t.Fatalf("Write has changed a batch's spare room: %v", w)
			}
			clear(batch[:cap(batch)])
			g.Pin()
			p.pin()
			agrees(t, "arguments written over", g, p)
		}
		from, to := roomy([]byte("a")), roomy([]byte("c"))
		g.Get(from, g.Seq())
		g.Scan(from, to, g.Seq())
		View{g, g.Seq()}.Value(to)
		if string(from[:5]) != "a\x00\x01\x02\xff" || string(to[:5]) != "c\x00\x01\x02\xff" {
			t.Errorf("Get or Scan has changed its keys: %q, %q", from[:5], to[:5])
		}
		fill(from)
		fill(to)
		agrees(t, "arguments written over", g, p)
		opens(t, d, o, p)
	}
}

func TestMemoryOfAnswers(t *testing.T) { // P13.5
	for _, o := range kinds {
		d, p := disk.New(100000), &plain{}
		g := opens(t, d, o, p)
		for i := range 8 {
			writes(t, g, p, put(keys[i%len(keys)], fmt.Sprint("value ", i)), put("c", fmt.Sprint("again ", i)), gone(keys[(i+5)%len(keys)]))
			g.Pin()
			p.pin()
		}
		for range 2 {
			for at := range p.now() {
				spoilAt(t, g, p, at+1)
			}
			clear(g.Tables())
			agrees(t, "answers written over", g, p)
			answers(t, "Flush", g.Flush(), api.OK)
			answers(t, "Compact", g.Compact(0), api.OK)
		}
		twin := d.Twin()
		other := opens(t, twin, o, &plain{batches: p.batches})
		other.Write(put("a", "another engine's"))
		other.Flush()
		agrees(t, "another engine written", g, p)
	}
}

// spoilAt writes over all that an engine answers of a moment.
func spoilAt(t *testing.T, g *Engine, p *plain, at uint64) {
	t.Helper()
	view := View{g, at}
	state := p.state(at)
	for _, key := range keys {
		one, _, _ := g.Get([]byte(key), at)
		two, _, _ := view.Value([]byte(key))
		if fill(one); string(two) != state[key] {
			t.Fatalf("two Gets share memory: %q", two)
		}
		fill(two)
	}
	want := between(state, "", "")
	one, _ := g.Scan(nil, nil, at)
	two, _ := view.All()
	for i := range one {
		fill(one[i].Key)
		if !bytes.Equal(one[i].Value, want[i].Value) {
			t.Fatalf("a pair's key shares memory with its value")
		}
		fill(one[i].Value)
		if !same(one[i+1:], want[i+1:]) {
			t.Fatalf("two pairs share memory")
		}
	}
	clear(one[:cap(one)])
	if !same(two, want) {
		t.Fatalf("two Scans share memory: %q", two)
	}
	for _, p := range two {
		fill(p.Key)
		fill(p.Value)
	}
	clear(two[:cap(two)])
}

func TestTwice(t *testing.T) { // the same calls make the same files, and have the same answers
	var first map[string]string
	for range 5 {
		d := disk.New(1 << 20)
		g, _ := Open(d, "x", Options{Mem: 100, Block: 30, Fan: 2})
		for i := range 60 {
			g.Write(put(keys[i%len(keys)], fmt.Sprint(i)), put(fmt.Sprint(i), "x"), gone(fmt.Sprint(i/2)))
			if i%5 < 3 {
				g.Pin()
			}
			if i%7 == 0 {
				g.Unpin(uint64(cmp.Or(i/2, 1)))
			}
		}
		if first == nil {
			first = files(d)
		}
		if !maps.Equal(first, files(d)) {
			t.Fatalf("the disk has other files than ahead")
		}
	}
}
