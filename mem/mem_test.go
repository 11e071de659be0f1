package mem

import (
	"bytes"
	"fmt"
	"math"
	"math/bits"
	"math/rand/v2"
	"slices"
	"testing"

	"caisson/api"
)

// put is a Put of a key.
func put(key string, seq uint64, value string) api.Entry {
	return api.Entry{Key: []byte(key), Seq: seq, Kind: api.Put, Value: []byte(value)}
}

// gone is a Delete of a key.
func gone(key string, seq uint64) api.Entry {
	return api.Entry{Key: []byte(key), Seq: seq, Kind: api.Delete}
}

// same: are these alike, an empty list and nil too?
func same(a, b api.Entry) bool {
	return bytes.Equal(a.Key, b.Key) && a.Seq == b.Seq && a.Kind == b.Kind && bytes.Equal(a.Value, b.Value)
}

// copied is a list that shares no memory with another one.
func copied(list []api.Entry) []api.Entry {
	var out []api.Entry
	for _, x := range list {
		x.Key, x.Value = slices.Clone(x.Key), slices.Clone(x.Value)
		out = append(out, x)
	}
	return out
}

// plain is a table by the words of the document: all entries, as they came.
type plain []api.Entry

func (p *plain) put(list ...api.Entry) api.Errno {
	for _, x := range list {
		if len(x.Key) > 1024 || len(x.Value) > 65536 {
			return 2
		}
	}
	for _, x := range list {
		if x.Kind != 1 && x.Kind != 2 || x.Kind == 2 && len(x.Value) > 0 {
			return 3
		}
	}
	all := append(slices.Clone(*p), list...)
	for i, x := range all {
		for _, y := range all[:i] {
			if bytes.Equal(x.Key, y.Key) && x.Seq == y.Seq {
				return 7
			}
		}
	}
	*p = copied(all)
	return 0
}

func (p plain) get(key []byte, at uint64) (api.Entry, bool) {
	var found api.Entry
	ok := false
	for _, x := range p {
		if bytes.Equal(x.Key, key) && x.Seq <= at && (!ok || x.Seq > found.Seq) {
			found, ok = x, true
		}
	}
	return found, ok
}

// between puts each entry behind those that stand ahead of it.
func (p plain) between(from, to []byte) []api.Entry {
	var out []api.Entry
	for _, x := range p {
		if string(x.Key) < string(from) || len(to) > 0 && string(x.Key) >= string(to) {
			continue
		}
		i := 0
		for i < len(out) && (string(out[i].Key) < string(x.Key) || string(out[i].Key) == string(x.Key) && out[i].Seq > x.Seq) {
			i++
		}
		out = slices.Insert(out, i, x)
	}
	return out
}

func (p plain) size() int {
	n := 0
	for _, x := range p {
		n += len(x.Key) + len(x.Value)
	}
	return n
}

// keys are some that lie close together, the empty one and the one behind all entries' too.
var keys = [][]byte{nil, {}, {0}, {0, 0}, {0, 1}, {1}, {97}, {97, 0}, {97, 97}, {97, 97, 0}, {97, 98}, {98}, {127}, {128}, {255}, {255, 255}, bytes.Repeat([]byte{255}, 1025)}

// moments are the numbers at which something may change, with their neighbours.
var moments = []uint64{0, 1, 2, 3, 4, 5, 6, 7, 8, 9, 1<<63 - 1, 1 << 63, math.MaxUint64 - 1, math.MaxUint64}

// agrees looks whether a table answers what the plain one does.
func agrees(t *testing.T, m *Table, p plain) {
	t.Helper()
	if m.Len() != len(p) || m.Size() != p.size() {
		t.Fatalf("Len %d, Size %d; want %d, %d", m.Len(), m.Size(), len(p), p.size())
	}
	for _, key := range keys {
		for _, at := range moments {
			got, ok := m.Get(key, at)
			if want, there := p.get(key, at); ok != there || !same(got, want) {
				t.Fatalf("Get(%q, %d) = %v, %v; want %v, %v", key, at, got, ok, want, there)
			}
		}
		for _, to := range keys {
			if got, want := m.Range(key, to), p.between(key, to); !slices.EqualFunc(got, want, same) {
				t.Fatalf("Range(%q, %q) = %v; want %v", key, to, got, want)
			}
		}
	}
}

func TestCheck(t *testing.T) { // P7.1
	long, tooLong := make([]byte, api.MaxKey), make([]byte, api.MaxKey+1)
	much, tooMuch := make([]byte, api.MaxValue), make([]byte, api.MaxValue+1)
	bad := api.Entry{Key: []byte("a"), Seq: 1}
	for i, c := range []struct {
		list []api.Entry
		want api.Errno
	}{
		{nil, api.OK},
		{[]api.Entry{{Kind: api.Put}}, api.OK}, {[]api.Entry{{Kind: api.Delete}}, api.OK}, {[]api.Entry{{Kind: api.Delete, Key: []byte{}, Value: []byte{}}}, api.OK},
		{[]api.Entry{put("a", 0, ""), put("a", 0, ""), gone("a", math.MaxUint64)}, api.OK}, // neither their order nor likeness counts
		{[]api.Entry{{}}, api.ErrForm}, {[]api.Entry{bad}, api.ErrForm},
		{[]api.Entry{{Kind: 3}}, api.ErrForm}, {[]api.Entry{{Kind: 255, Value: []byte("x")}}, api.ErrForm}, {[]api.Entry{{Kind: 0, Value: []byte("x")}}, api.ErrForm},
		{[]api.Entry{{Kind: api.Delete, Value: []byte{0}}}, api.ErrForm}, {[]api.Entry{{Kind: api.Delete, Value: much}}, api.ErrForm},
		{[]api.Entry{put("a", 1, "x"), bad}, api.ErrForm}, {[]api.Entry{bad, put("a", 1, "x")}, api.ErrForm},
		{[]api.Entry{{Kind: api.Put, Key: long, Value: much}, {Kind: api.Delete, Key: long}}, api.OK},
		{[]api.Entry{{Kind: api.Put, Key: tooLong}}, api.ErrSize}, {[]api.Entry{{Kind: api.Delete, Key: tooLong}}, api.ErrSize}, {[]api.Entry{{Kind: api.Put, Value: tooMuch}}, api.ErrSize},
		{[]api.Entry{{Kind: api.Delete, Value: tooMuch}}, api.ErrSize}, {[]api.Entry{{Key: tooLong}}, api.ErrSize}, {[]api.Entry{{Kind: 9, Value: tooMuch}}, api.ErrSize},
		{[]api.Entry{bad, {Kind: api.Put, Key: tooLong}}, api.ErrSize}, {[]api.Entry{{Kind: api.Put, Value: tooMuch}, bad}, api.ErrSize},
		{[]api.Entry{bad, bad, put("a", 1, ""), {Kind: api.Delete, Key: tooLong, Value: tooMuch}}, api.ErrSize},
	} {
		if got := Check(c.list...); got != c.want {
			t.Errorf("Check, case %d: %v; want %v", i, got, c.want)
		}
	}
}

func TestLess(t *testing.T) { // P7.1
	for _, a := range keys {
		for _, b := range keys {
			for _, i := range moments {
				for _, j := range moments {
					want := string(a) < string(b) || string(a) == string(b) && i > j
					// kinds and values don't count, those that aren't in form neither
					if Less(api.Entry{Key: a, Seq: i, Kind: api.Put, Value: []byte("x")}, api.Entry{Key: b, Seq: j, Kind: api.Delete}) != want || Less(api.Entry{Key: a, Seq: i}, api.Entry{Key: b, Seq: j, Kind: 9, Value: []byte("y")}) != want {
						t.Fatalf("Less of %q %d and %q %d isn't %v", a, i, b, j, want)
					}
				}
			}
		}
	}
}

func TestExamples(t *testing.T) { // P7.1, P7.2
	m := New()
	if e := m.Put(put("a", 1, "x"), gone("a", 3)); e != api.OK {
		t.Errorf("Put = %v", e)
	}
	agrees(t, m, plain{put("a", 1, "x"), gone("a", 3)})
	if x, ok := m.Get([]byte("a"), 2); !ok || !same(x, put("a", 1, "x")) {
		t.Errorf("Get at 2 = %v, %v", x, ok)
	}
	if x, ok := m.Get([]byte("a"), 9); !ok || !same(x, gone("a", 3)) {
		t.Errorf("Get at 9 = %v, %v", x, ok)
	}
	if x, ok := m.Get([]byte("a"), 0); ok || !same(x, api.Entry{}) {
		t.Errorf("Get at 0 = %v, %v", x, ok)
	}
	if e := m.Put(put("b", 1, ""), put("a", 3, "y")); e != api.ErrThere {
		t.Errorf("Put of what is there = %v", e)
	}
	agrees(t, m, plain{put("a", 1, "x"), gone("a", 3)})
	if l := m.Range(nil, nil); len(l) != 2 || !same(l[0], gone("a", 3)) || !same(l[1], put("a", 1, "x")) {
		t.Errorf("Range = %v", l)
	}
}

func TestEmpty(t *testing.T) { // P7.2: without entries
	var zero Table
	for _, m := range []*Table{New(), &zero} {
		agrees(t, m, nil)
		if e := m.Put(); e != api.OK {
			t.Errorf("Put of none = %v", e)
		}
		if e := m.Put(api.Entry{}); e != api.ErrForm {
			t.Errorf("Put of what isn't in form = %v", e)
		}
		agrees(t, m, nil)
		if e := m.Put(put("", 0, "")); e != api.OK {
			t.Errorf("Put = %v", e)
		}
		agrees(t, m, plain{put("", 0, "")})
	}
	agrees(t, New(), nil) // each is one of its own
}

func TestPutErrors(t *testing.T) { // P7.2
	there := plain{put("a", 1, "x"), gone("a", 3), put("b", 0, "")}
	tooLong, tooMuch := make([]byte, api.MaxKey+1), make([]byte, api.MaxValue+1)
	for i, c := range []struct {
		list []api.Entry
		want api.Errno
	}{
		{[]api.Entry{put("a", 1, "x")}, api.ErrThere}, {[]api.Entry{put("a", 1, "y")}, api.ErrThere}, {[]api.Entry{gone("a", 1)}, api.ErrThere}, {[]api.Entry{put("a", 3, "")}, api.ErrThere},
		{[]api.Entry{put("c", 1, ""), put("b", 0, "z")}, api.ErrThere}, {[]api.Entry{put("b", 0, "z"), put("c", 1, "")}, api.ErrThere},
		{[]api.Entry{put("c", 1, ""), put("c", 1, "")}, api.ErrThere}, {[]api.Entry{put("c", 1, ""), put("d", 1, ""), put("c", 2, ""), gone("c", 1)}, api.ErrThere},
		{[]api.Entry{put("c", 1, ""), {Key: []byte("d"), Seq: 1}}, api.ErrForm}, {[]api.Entry{put("a", 1, "x"), {Kind: api.Delete, Value: []byte("x")}}, api.ErrForm},
		{[]api.Entry{put("a", 1, "x"), {}, {Kind: api.Put, Key: tooLong}}, api.ErrSize}, {[]api.Entry{{Kind: api.Put, Value: tooMuch}, put("c", 1, "")}, api.ErrSize},
		{[]api.Entry{put("c", 1, ""), put("c", 1, ""), {Kind: 7}}, api.ErrForm},
	} {
		m := New()
		m.Put(there...)
		for range 2 {
			if got := m.Put(c.list...); got != c.want {
				t.Errorf("Put, case %d: %v; want %v", i, got, c.want)
			}
			agrees(t, m, there)
		}
		more := []api.Entry{put("c", 1, "later"), put("a", 2, "between")} // what was refused isn't there
		if e := m.Put(more...); e != api.OK {
			t.Errorf("Put behind case %d: %v", i, e)
		}
		agrees(t, m, append(slices.Clone(there), more...))
	}
}

func TestLimits(t *testing.T) { // P7.2: what is just not too long is there, whole
	var m Table
	key, value := bytes.Repeat([]byte{7}, api.MaxKey), bytes.Repeat([]byte{9}, api.MaxValue)
	x := api.Entry{Key: key, Seq: math.MaxUint64, Kind: api.Put, Value: value}
	if e := m.Put(x); e != api.OK || m.Len() != 1 || m.Size() != api.MaxKey+api.MaxValue {
		t.Errorf("Put = %v; Len %d, Size %d", e, m.Len(), m.Size())
	}
	if got, ok := m.Get(key, math.MaxUint64); !ok || !same(got, x) {
		t.Errorf("Get = %v", ok)
	}
	if _, ok := m.Get(key, math.MaxUint64-1); ok {
		t.Errorf("Get answers a later version")
	}
	if _, ok := m.Get(append(key, 7), math.MaxUint64); ok {
		t.Errorf("Get answers another key's version")
	}
	if got := m.Range(nil, append(key, 7)); len(got) != 1 || !same(got[0], x) {
		t.Errorf("Range = %d entries", len(got))
	}
}

// orders makes all orders of the numbers below n.
func orders(n int) [][]int {
	if n == 0 {
		return [][]int{nil}
	}
	var out [][]int
	for _, o := range orders(n - 1) {
		for i := range n {
			out = append(out, slices.Insert(slices.Clone(o), i, n-1))
		}
	}
	return out
}

func TestAnyOrder(t *testing.T) { // P7.2: whatever the order of the Puts
	all := []api.Entry{put("a", 2, "x"), gone("a", 1), put("", 1, "y"), put("a\x00", 1, ""), put("\xff", 8, "z"), put("aa", 0, "w"), gone("aa", math.MaxUint64)}
	for n := range len(all) + 1 {
		want := New()
		if e := want.Put(all[:n]...); e != api.OK {
			t.Fatalf("Put = %v", e)
		}
		agrees(t, want, all[:n])
		for _, o := range orders(n) {
			m := New()
			for _, i := range o {
				if e := m.Put(all[i]); e != api.OK {
					t.Fatalf("Put(%v) = %v", all[i], e)
				}
			}
			if !slices.EqualFunc(m.Range(nil, nil), want.Range(nil, nil), same) || m.Len() != n || m.Size() != want.Size() {
				t.Fatalf("put in the order %v: %v", o, m.Range(nil, nil))
			}
			for _, i := range o {
				if got, ok := m.Get(all[i].Key, all[i].Seq); !ok || !same(got, all[i]) {
					t.Fatalf("put in the order %v: Get(%q, %d) = %v, %v", o, all[i].Key, all[i].Seq, got, ok)
				}
			}
		}
	}
}

// entryOf makes an entry of three bytes, most often one in form.
func entryOf(a, b, c byte) api.Entry {
	x := api.Entry{Key: keys[int(a)%(len(keys)-1)], Seq: moments[int(b)%len(moments)], Kind: 1 + c%2}
	if x.Kind == api.Put {
		x.Value = bytes.Repeat([]byte{c}, int(c)%5)
	}
	switch {
	case c == 255:
		x.Key = keys[len(keys)-1]
	case c >= 252:
		x.Kind = c * 3
	case c == 251:
		x.Kind, x.Value = api.Delete, []byte{a}
	}
	return x
}

// play does what a script says, with a table and a plain one: Puts of entries of three bytes each, each Put as long as a byte ahead of it says.
func play(t *testing.T, script []byte) {
	t.Helper()
	m, p := New(), plain{}
	for len(script) > 0 {
		n := min(int(script[0])%6, (len(script)-1)/3)
		script = script[1:]
		var list []api.Entry
		for range n {
			list = append(list, entryOf(script[0], script[1], script[2]))
			script = script[3:]
		}
		if got, want := m.Put(list...), p.put(list...); got != want {
			t.Fatalf("Put(%v) = %v; want %v", list, got, want)
		}
	}
	agrees(t, m, p)
}

func TestAnyPuts(t *testing.T) { // P7.2
	r := rand.New(rand.NewPCG(7, 2))
	for i := range 400 {
		script := make([]byte, r.IntN(4+i/2))
		for j := range script {
			script[j] = byte(r.Uint32())
		}
		play(t, script)
	}
}

// levels are the tree's, counted; it must be what its nodes say, and the sides almost alike.
func levels(t *testing.T, n *node) int {
	if n == nil {
		return 0
	}
	left, right := levels(t, n.left), levels(t, n.right)
	if n.levels != 1+max(left, right) || left > right+1 || right > left+1 {
		t.Fatalf("a node of %d levels has sides of %d and %d", n.levels, left, right)
	}
	return n.levels
}

func TestManyEntries(t *testing.T) { // P1, P7.2: no order of Puts makes it slow
	const many = 20000
	for name, place := range map[string]func(i int) int{
		"rising":  func(i int) int { return i },
		"falling": func(i int) int { return many - 1 - i },
		"inwards": func(i int) int { return i/2 + i%2*(many-1-i/2*2) },
		"strewn":  func(i int) int { return i * 7919 % many },
	} {
		m := New()
		seen := make([]bool, many)
		for i := range many {
			n := place(i)
			seen[n] = true
			if e := m.Put(put(fmt.Sprintf("%04d", n/10), uint64(9-n%10), "x")); e != api.OK {
				t.Fatalf("%s: Put of %d = %v", name, n, e)
			}
		}
		if slices.Contains(seen, false) {
			t.Fatalf("%s isn't an order", name)
		}
		if got := levels(t, m.root); got > bits.Len(many)*3/2 {
			t.Errorf("%s: %d levels", name, got)
		}
		all := m.Range(nil, nil)
		for n, x := range all {
			if string(x.Key) != fmt.Sprintf("%04d", n/10) || x.Seq != uint64(9-n%10) {
				t.Fatalf("%s: entry %d is %v", name, n, x)
			}
		}
		if len(all) != many || m.Len() != many || m.Size() != 5*many {
			t.Errorf("%s: %d entries, Len %d, Size %d", name, len(all), m.Len(), m.Size())
		}
		if got := m.Range([]byte("0100"), []byte("0102")); len(got) != 20 || string(got[0].Key) != "0100" || string(got[19].Key) != "0101" {
			t.Errorf("%s: Range = %v", name, got)
		}
	}
}

func TestCounted(t *testing.T) { // P7.3
	var c Counted
	if x, ok := c.Get(nil, 0); ok || !same(x, api.Entry{}) || c.Gets != 1 {
		t.Errorf("Get = %v, %v; Gets %d", x, ok, c.Gets)
	}
	if e := c.Put(put("a", 1, "x"), gone("b", 2)); e != api.OK {
		t.Errorf("Put = %v", e)
	}
	if e := c.Put(put("a", 1, "x")); e != api.ErrThere {
		t.Errorf("Put of what is there = %v", e)
	}
	agrees(t, &c.Table, plain{put("a", 1, "x"), gone("b", 2)}) // the Table's own Gets aren't counted
	if l := c.Range(nil, nil); c.Gets != 1 || len(l) != 2 || c.Len() != 2 || c.Size() != 3 {
		t.Errorf("Gets %d, Range %v, Len %d, Size %d", c.Gets, l, c.Len(), c.Size())
	}
	gets := 1
	for _, key := range keys {
		for _, at := range moments {
			got, ok := c.Get(key, at)
			want, there := c.Table.Get(key, at)
			gets++
			if ok != there || !same(got, want) || c.Gets != gets {
				t.Fatalf("Get(%q, %d) = %v, %v; want %v, %v; Gets %d, want %d", key, at, got, ok, want, there, c.Gets, gets)
			}
		}
	}
	c.Gets = -5
	if c.Get([]byte("a"), 1); c.Gets != -4 {
		t.Errorf("Gets %d", c.Gets)
	}
	filled := Counted{Table: *New(), Gets: 9}
	filled.Put(put("c", 1, "z"))
	if x, ok := filled.Get([]byte("c"), 5); !ok || !same(x, put("c", 1, "z")) || filled.Gets != 10 || c.Gets != -4 || c.Len() != 2 {
		t.Errorf("Get = %v, %v; Gets %d and %d", x, ok, filled.Gets, c.Gets)
	}
}

// roomy is a copy of b with spare room that holds other bytes.
func roomy(b []byte) []byte {
	return append(slices.Clone(b), 0, 1, 2, 255)[:len(b)]
}

// fill writes over a list, its spare room too.
func fill(b []byte) {
	b = b[:cap(b)]
	for i := range b {
		b[i] = 77
	}
}

func TestMemoryOfPut(t *testing.T) { // P7.4
	key, value := roomy([]byte("a")), roomy([]byte("x"))
	list := []api.Entry{{Key: key, Seq: 1, Kind: api.Put, Value: value}, gone("b", 1)}
	before := copied(list)
	want := plain(copied(list))
	m := New()
	if e := m.Put(list[:1:2]...); e != api.OK {
		t.Errorf("Put = %v", e)
	}
	if Check(list...); Less(list[0], list[1]) != true || !slices.EqualFunc(list, before, same) || !bytes.Equal(key[:5], []byte("a\x00\x01\x02\xff")) || !bytes.Equal(value[:5], []byte("x\x00\x01\x02\xff")) {
		t.Errorf("what was handed in is changed: %v", list)
	}
	fill(key)
	fill(value)
	list[0] = api.Entry{}
	agrees(t, m, want[:1]) // the first one alone, though there is another one in the list's spare room
}

func TestMemoryOfAnswers(t *testing.T) { // P7.4
	m := New()
	want := plain{put("a", 2, "xyz"), put("a", 1, ""), gone("b", 7), put("", 3, "w")}
	m.Put(want...)
	from, to := roomy([]byte("a")), roomy([]byte("b"))
	one, _ := m.Get(from, 2)
	m.Range(from, to)
	if !bytes.Equal(from[:5], []byte("a\x00\x01\x02\xff")) || !bytes.Equal(to[:5], []byte("b\x00\x01\x02\xff")) {
		t.Errorf("Get, Range: what was handed in is changed")
	}
	fill(from)
	list := m.Range(nil, nil)
	again := m.Range(nil, nil)
	whole := list[:cap(list)]
	for i := range list { // each list of bytes is filled, and all others must stay
		fill(list[i].Key)
		fill(list[i].Value)
		for j := i + 1; j < len(list); j++ {
			if !same(list[j], again[j]) {
				t.Errorf("Range: the entries %d and %d share memory", i, j)
			}
		}
	}
	for i := range whole {
		whole[i] = put("q", 9, "q")
	}
	agrees(t, m, want)
	if !slices.EqualFunc(again, want.between(nil, nil), same) || !same(one, want[0]) {
		t.Errorf("two answers share memory: %v, %v", again, one)
	}
	fill(one.Key)
	if string(one.Value) != "xyz" {
		t.Errorf("Get: key and value share memory")
	}
	fill(one.Value)
	agrees(t, m, want)
}

func TestMemoryOfTables(t *testing.T) { // P7.4: what a table's calls change is that table alone
	m := New()
	m.Put(put("a", 1, "x"), put("b", 1, "y"))
	c := Counted{Table: *m}
	other := New()
	c.Put(put("a", 2, "c"), put("c", 1, "c"))
	m.Put(put("b", 2, "m"))
	agrees(t, m, plain{put("a", 1, "x"), put("b", 1, "y"), put("b", 2, "m")})
	agrees(t, &c.Table, plain{put("a", 1, "x"), put("b", 1, "y"), put("a", 2, "c"), put("c", 1, "c")})
	agrees(t, other, nil)
}

// FuzzPlay: as TestAnyPuts, with scripts that are looked for.
func FuzzPlay(f *testing.F) { // P1, P7.1, P7.2
	f.Add([]byte{2, 6, 1, 1, 6, 3, 2, 2, 11, 1, 1, 6, 3, 1})
	f.Add([]byte{1, 0, 0, 0, 1, 1, 0, 0, 1, 2, 0, 255, 1, 3, 0, 254, 1, 4, 0, 251})
	f.Fuzz(func(t *testing.T, script []byte) { play(t, script[:min(len(script), 300)]) })
}

// FuzzAny: as the plain table answers, whatever is handed in.
func FuzzAny(f *testing.F) { // P1, P7.1 to P7.3
	f.Add([]byte("a"), uint64(1), byte(1), []byte("x"), []byte("a"), uint64(1), byte(2), []byte(nil))
	f.Add([]byte("a"), uint64(1), byte(1), []byte("x"), []byte(nil), uint64(math.MaxUint64), byte(0), []byte("y"))
	f.Add(make([]byte, 1025), uint64(0), byte(3), []byte(nil), []byte(nil), uint64(0), byte(2), make([]byte, 65537))
	f.Fuzz(func(t *testing.T, key []byte, seq uint64, kind byte, value []byte, key2 []byte, seq2 uint64, kind2 byte, value2 []byte) {
		a, b := api.Entry{Key: key, Seq: seq, Kind: kind, Value: value}, api.Entry{Key: key2, Seq: seq2, Kind: kind2, Value: value2}
		var c Counted
		var p plain
		for _, list := range [][]api.Entry{{a, b}, {a}, {b}, nil, {b, a}} {
			var fresh plain
			if e := fresh.put(list...); e != api.ErrThere && Check(list...) != e {
				t.Fatalf("Check(%v) isn't %v", list, e)
			}
			if got, want := c.Put(list...), p.put(list...); got != want {
				t.Fatalf("Put(%v) = %v; want %v", list, got, want)
			}
		}
		for _, k := range [][]byte{key, key2, value} {
			for _, at := range []uint64{seq, seq2, seq - 1, seq2 + 1} {
				got, ok := c.Get(k, at)
				if want, there := p.get(k, at); ok != there || !same(got, want) {
					t.Fatalf("Get(%q, %d) = %v, %v; want %v, %v", k, at, got, ok, want, there)
				}
			}
			for _, to := range [][]byte{key, key2, value} {
				if got := c.Range(k, to); !slices.EqualFunc(got, p.between(k, to), same) {
					t.Fatalf("Range(%q, %q) = %v", k, to, got)
				}
			}
		}
		if c.Len() != len(p) || c.Size() != p.size() || c.Gets != 12 {
			t.Fatalf("Len %d, Size %d, Gets %d", c.Len(), c.Size(), c.Gets)
		}
		if Less(a, b) && Less(b, a) || Less(a, a) || !Less(a, b) && !Less(b, a) && (!bytes.Equal(key, key2) || seq != seq2) {
			t.Fatalf("Less(%v, %v) = %v, the other way round %v", a, b, Less(a, b), Less(b, a))
		}
	})
}
