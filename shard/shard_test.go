package shard

import (
	"bytes"
	"fmt"
	"math"
	"slices"
	"strings"
	"testing"

	"caisson/api"
	"caisson/disk"
	"caisson/lsm"
	"caisson/mvcc"
)

// kinds are options of engines of which some flush and merge at each Write, and some never.
var kinds = []lsm.Options{{Mem: 1 << 20, Block: 1000, Fan: 4}, {}, {Mem: 300, Block: 40, Fan: 2}}

// life is a machine on a disk, with a plain one.
type life struct {
	*testing.T
	d *disk.Disk
	o lsm.Options
	m *Machine
	p *plain
}

func begin(t *testing.T, room int, o lsm.Options) *life {
	w := &life{T: t, d: disk.New(room), o: o, p: newPlain()}
	w.open()
	return w
}

// storeOn is the store on a disk.
func storeOn(t *testing.T, d *disk.Disk, o lsm.Options) mvcc.Store {
	t.Helper()
	g, e := lsm.Open(d, "s/", o)
	if e != api.OK {
		t.Fatalf("lsm.Open = %v", e)
	}
	return mvcc.Of(g)
}

// open opens the machine that lies on the disk.
func (w *life) open() {
	w.Helper()
	s := storeOn(w.T, w.d, w.o)
	m, e := Open(s)
	if e != api.OK || m.Store != s {
		w.Fatalf("Open = %v, %v", m, e)
	}
	w.m = m
}

// agrees looks whether both say the same, also when it is opened anew.
func (w *life) agrees(what string) {
	w.Helper()
	agrees(w.T, what, w.m, w.p)
	m, e := Open(w.m.Store)
	if e != api.OK {
		w.Fatalf("%s: Open = %v", what, e)
	}
	agrees(w.T, what+", opened", m, w.p)
}

// does does a command in both.
func (w *life) does(c Cmd) Result {
	w.Helper()
	index := w.p.applied + 1
	got, e := w.m.Apply(index, Encode(c))
	want := w.p.do(index, c)
	if e != api.OK || !sameResult(got, want) {
		w.Fatalf("Apply(%d, %s) = %+v, %v; want %+v", index, told(c), got, e, want)
	}
	return got
}

// wants does a command whose result has this Err and Status.
func (w *life) wants(c Cmd, err api.Errno, status int) Result {
	w.Helper()
	r := w.does(c)
	if r.Err != err || r.Status != status {
		w.Fatalf("Apply(%s) = %+v; want Err %d, Status %d", told(c), r, err, status)
	}
	return r
}

// tidies tidies both.
func (w *life) tidies(below uint64) int {
	w.Helper()
	n, e := w.m.Tidy(below)
	if want := w.p.tidy(below); e != api.OK || n != want {
		w.Fatalf("Tidy(%d) = %d, %v; want %d", below, n, e, want)
	}
	return n
}

// dumps is the machine's dump.
func dumps(t *testing.T, m *Machine) []byte {
	t.Helper()
	b, e := m.Dump()
	if e != api.OK {
		t.Fatalf("Dump = %v", e)
	}
	return b
}

// restores is the machine of a dump, on a disk of its own.
func restores(t *testing.T, b []byte, o lsm.Options) (*Machine, *disk.Disk) {
	t.Helper()
	d := disk.New(1 << 24)
	m, e := Restore(storeOn(t, d, o), b)
	if e != api.OK {
		t.Fatalf("Restore = %v", e)
	}
	return m, d
}

var a, b, c = txn(1, 1), txn(2, 1), txn(3, 1)

func TestExamples(t *testing.T) { // P19.2
	for _, o := range kinds {
		w := begin(t, 1<<20, o)
		if r := w.wants(locking(a, excl("k", "l")), 0, 1); r.Ts != 1 || len(r.Pairs) != 0 {
			t.Errorf("Lock = %+v", r)
		}
		w.wants(locking(b, shared("k", "l")), 0, 2)
		if w.m.Closed() != 0 {
			t.Errorf("Closed = %d", w.m.Closed())
		}
		w.wants(committing(a, 1, put("k", "x")), 0, 0)
		if w.m.Known(b) != 1 || w.m.Closed() != 1 {
			t.Errorf("Known = %d, Closed = %d", w.m.Known(b), w.m.Closed())
		}
		if r := w.wants(locking(b, shared("k", "l")), 0, 1); r.Ts != 2 || len(r.Pairs) != 1 || string(r.Pairs[0].Key) != "k" || string(r.Pairs[0].Value) != "x" {
			t.Errorf("Lock again = %+v", r)
		}
		w.wants(locking(a, excl("k", "l")), api.ErrOld, 0)
		one := w.does(deciding(a, 1, "r", put("k", "x")))
		two := w.does(Cmd{Kind: Decide, Txn: a})
		if !one.Record.Commit || !sameRecord(one.Record, two.Record) || string(two.Record.Reply) != "r" {
			t.Errorf("Decide = %+v, %+v", one, two)
		}
		w.agrees("the examples")
	}
}

// long is a text of n bytes.
func long(n int) string { return strings.Repeat("k", n) }

// oddCommands are commands of all kinds, with all fields set, in form or not.
func oddCommands() []Cmd {
	ranges := [][]api.Range{nil, {{}}, {shared("a", "b")}, {excl("", ""), shared("z", "a"), excl("\x00", "\x00\xff")}, slices.Repeat([]api.Range{excl("a", "")}, 70), {shared(long(2000), long(3000))}}
	writes := [][]api.Write{nil, {{}}, {put("a", "")}, {put("", "x"), gone("b"), {Key: []byte("c"), Value: []byte("d"), Gone: true}}, slices.Repeat([]api.Write{put("a", long(200))}, 150), {put(long(5000), long(70000))}}
	var out []Cmd
	for i, n := range []uint64{0, 1, 127, 128, 1<<32 - 2, 1<<32 - 1, 1 << 62, math.MaxUint64} {
		for j := range ranges {
			for kind := 1; kind <= 3; kind++ {
				out = append(out, Cmd{Kind: kind, Txn: txn(n, uint64(j)), Ranges: ranges[j], Commit: (i+j)%2 == 0, Ts: n / 2, Writes: writes[j], Reply: []byte(long(i * j))})
				out = append(out, Cmd{Kind: kind, Txn: txn(uint64(j), n), Ranges: ranges[(i+j)%6], Commit: j%2 == 0, Ts: n, Writes: writes[(i+j)%6]})
			}
		}
	}
	return out
}

// comesBack is what must come back of a command.
func comesBack(c Cmd) Cmd {
	switch c.Kind {
	case Lock:
		return Cmd{Kind: Lock, Txn: c.Txn, Ranges: c.Ranges}
	case Decide:
		return Cmd{Kind: Decide, Txn: c.Txn, Commit: c.Commit, Ts: c.Ts, Writes: c.Writes, Reply: c.Reply}
	}
	return Cmd{Kind: Finish, Txn: c.Txn, Commit: c.Commit, Ts: c.Ts, Writes: c.Writes}
}

func sameCmd(a, b Cmd) bool {
	return a.Kind == b.Kind && a.Txn == b.Txn && sameRanges(a.Ranges, b.Ranges) && a.Commit == b.Commit && a.Ts == b.Ts && sameWrites(a.Writes, b.Writes) && bytes.Equal(a.Reply, b.Reply)
}

func TestEncode(t *testing.T) { // P19.1
	seen := map[string]Cmd{}
	for _, c := range oddCommands() {
		b := Encode(c)
		got, e := Decode(b)
		if e != api.OK || !sameCmd(got, comesBack(c)) {
			t.Fatalf("Decode(Encode(%s)) = %s, %v", told(c), told(got), e)
		}
		if other, there := seen[string(b)]; there && !sameCmd(got, other) {
			t.Fatalf("%s and %s have the same bytes", told(got), told(other))
		}
		seen[string(b)] = got
	}
}

// noCommand looks whether bytes are refused, or are a command's.
func noCommand(t *testing.T, what string, b []byte) (Cmd, bool) {
	t.Helper()
	c, e := Decode(b)
	switch e {
	case api.OK:
		if !bytes.Equal(Encode(c), b) || !sameCmd(c, comesBack(c)) || c.Kind < 1 || c.Kind > 3 {
			t.Fatalf("%s: %q is taken as %s", what, b, told(c))
		}
		return c, true
	case api.ErrForm, api.ErrEnd:
		if !sameCmd(c, Cmd{}) {
			t.Fatalf("%s: beside %v there is %s", what, e, told(c))
		}
		return Cmd{}, false
	}
	t.Fatalf("%s: Decode = %v", what, e)
	return Cmd{}, false
}

func TestDecodeOfOtherBytes(t *testing.T) { // P19.1
	for _, kind := range []int{0, 4, -1, 256, 257, 258, 259, math.MinInt, math.MaxInt} {
		c := locking(a, shared("a", "b"))
		c.Kind = kind
		if _, ok := noCommand(t, "another kind", Encode(c)); ok || len(Encode(c)) == 0 { // no bytes are what does nothing
			t.Errorf("of the kind %d comes a command, or nothing", kind)
		}
	}
	if _, ok := noCommand(t, "nothing", nil); ok {
		t.Errorf("nothing is a command")
	}
	for _, c := range oddCommands() {
		whole := Encode(c)
		if len(whole) > 300 {
			continue
		}
		for n := range whole {
			if _, ok := noCommand(t, "cut", whole[:n]); ok && n == 0 {
				t.Fatalf("%q is a command", whole[:n])
			}
			for _, x := range []byte{0, 1, 127, 128, 255, whole[n] ^ 1} {
				spoilt := bytes.Clone(whole)
				spoilt[n] = x
				noCommand(t, "spoilt", spoilt)
			}
		}
		for _, more := range []string{"\x00", "\x01", "\x80", "\x01\x01"} {
			noCommand(t, "more", append(bytes.Clone(whole), more...))
		}
	}
}

func FuzzDecode(f *testing.F) { // P19.1, P1
	for _, c := range oddCommands()[:60] {
		f.Add(Encode(c)[:min(len(Encode(c)), 200)])
	}
	f.Fuzz(func(t *testing.T, b []byte) { noCommand(t, "any", b) })
}

func TestIndexes(t *testing.T) { // P19.2
	w := begin(t, 1<<20, lsm.Options{})
	for _, index := range []uint64{0} {
		if r, e := w.m.Apply(index, nil); e != api.ErrOld || !sameResult(r, Result{}) {
			t.Errorf("Apply(%d) = %v, %v", index, r, e)
		}
	}
	if w.m.Seq() != 0 {
		t.Errorf("an Apply that is refused writes")
	}
	at := uint64(0)
	for _, index := range []uint64{1, 2, 7, 8, 1 << 40, math.MaxUint64 - 1, math.MaxUint64} {
		for _, data := range [][]byte{nil, {}, {0}, []byte("nonsense"), Encode(locking(a, excl("k", "l")))} {
			for _, old := range []uint64{at, at - 1, at / 2, 0} {
				if old > at {
					continue
				}
				if r, e := w.m.Apply(old, data); e != api.ErrOld || !sameResult(r, Result{}) {
					t.Errorf("Apply(%d) behind %d = %v, %v", old, at, r, e)
				}
			}
			w.agrees("an old index")
		}
		at = index
		if r, e := w.m.Apply(index, nil); e != api.OK || !sameResult(r, Result{}) {
			t.Fatalf("Apply(%d) = %v, %v", index, r, e)
		}
		w.p.applied = index
		w.agrees("an index")
	}
}

func TestNoCommands(t *testing.T) { // P19.2
	w := begin(t, 1<<20, lsm.Options{})
	w.does(locking(a, excl("k", "l")))
	for _, data := range [][]byte{nil, {}, {0}, {1}, {4}, []byte("nonsense"), Encode(Cmd{}), Encode(Cmd{Kind: 4, Txn: a}), append(Encode(dropping(a)), 0), Encode(dropping(a))[:3]} {
		w.p.applied++
		want := api.ErrForm
		if len(data) == 0 {
			want = api.OK
		}
		if r, e := w.m.Apply(w.p.applied, data); e != api.OK || !sameResult(r, Result{Err: want}) {
			t.Errorf("Apply(%q) = %+v, %v", data, r, e)
		}
		w.agrees("no command")
	}
}

func TestTooGreatNumbers(t *testing.T) { // P19.2
	w := begin(t, 1<<20, lsm.Options{})
	w.does(locking(a, excl("k", "l")))
	most, much := uint64(1<<32-2), uint64(1<<32-1)
	for _, x := range []api.Txn{txn(much, 1), txn(1, much), txn(much, much), txn(math.MaxUint64, 0), txn(0, math.MaxUint64)} {
		for _, c := range []Cmd{locking(x, excl("a", "b")), locking(x), deciding(x, 1, "r"), {Kind: Decide, Txn: x}, committing(x, 1), dropping(x)} {
			w.wants(c, api.ErrArg, 0)
			w.agrees("a number too great")
		}
	}
	for _, ts := range []uint64{1<<62 + 1, 1 << 63, math.MaxUint64} {
		w.wants(deciding(b, ts, ""), api.ErrArg, 0)
		w.wants(Cmd{Kind: Decide, Txn: b, Ts: ts}, api.ErrArg, 0)
		w.wants(committing(a, ts), api.ErrArg, 0)
		w.wants(Cmd{Kind: Finish, Txn: a, Ts: ts}, api.ErrArg, 0)
		w.agrees("a timestamp too great")
	}
	w.wants(Cmd{Kind: Lock, Txn: b, Ranges: []api.Range{shared("x", "y")}, Ts: math.MaxUint64}, 0, 1) // a Lock has none
	for _, x := range []api.Txn{txn(most, 0), txn(0, most), txn(most, most), txn(0, 0)} {
		w.wants(locking(x, shared("a", "b")), 0, 1)
		w.wants(deciding(x, 1<<62, "r"), 0, 0)
		w.agrees("great numbers")
	}
	w.wants(committing(txn(most, most), 1<<62), 0, 0)
	w.wants(locking(txn(most, most), shared("a", "b")), api.ErrOld, 0)
	w.agrees("the greatest numbers")
	if r := w.wants(locking(txn(5, 5), excl("n", "")), 0, 2); r.Ts != 0 { // b holds [x, y)
		t.Errorf("%+v", r)
	}
	w.does(dropping(b))
	if r := w.wants(locking(txn(5, 5), excl("n", "")), 0, 1); r.Ts != 1<<62+1 {
		t.Errorf("%+v", r)
	}
	w.wants(committing(txn(5, 5), 1<<62, put("n", "")), api.ErrOld, 0) // no timestamp is left
	w.agrees("no timestamp is left")
}

func TestLockOfWhatIsDone(t *testing.T) { // P19.2
	w := begin(t, 1<<20, lsm.Options{})
	w.wants(locking(txn(1, 0), excl("a", "b")), 0, 1)
	w.wants(dropping(txn(1, 0)), 0, 0)
	w.wants(locking(txn(1, 0), excl("a", "b")), api.ErrOld, 0)
	w.wants(locking(txn(1, 1), excl("a", "b")), 0, 1)
	w.wants(locking(txn(2, 0), excl("c", "d")), 0, 1) // another session
	w.wants(committing(txn(1, 5), 1), 0, 0)           // of one that the locks don't know
	for seq := range uint64(6) {
		w.wants(locking(txn(1, seq), excl("e", "f")), api.ErrOld, 0)
		w.wants(locking(txn(1, seq)), api.ErrOld, 0)                                        // without ranges, too
		w.wants(locking(txn(1, seq), excl(long(1025), "")), api.ErrOld, 0)                  // one too long, too
		w.wants(locking(txn(1, seq), slices.Repeat([]api.Range{{}}, 65)...), api.ErrOld, 0) // too many, too
		w.wants(Cmd{Kind: Lock, Txn: txn(1<<32-1, seq), Ranges: nil, Ts: 5}, api.ErrArg, 0) // ahead of it all
		w.wants(Cmd{Kind: Finish, Txn: txn(1, 3)}, 0, 0)                                    // the number doesn't fall
		w.wants(Cmd{Kind: Lock, Txn: txn(1, 1), Ranges: []api.Range{{}}}, api.ErrOld, 0)    // though the locks know it
		w.wants(Cmd{Kind: Decide, Txn: txn(1, seq), Ts: 7, Reply: []byte{byte(seq)}}, 0, 0) // a decision may come later
		w.wants(Cmd{Kind: Finish, Txn: txn(7, seq), Commit: seq%2 == 0, Ts: 3 * seq}, 0, 0) // others go their way
		w.wants(Cmd{Kind: Lock, Txn: txn(7, seq+1), Ranges: []api.Range{{From: []byte{9}, To: []byte{9, byte(seq + 1)}}}}, 0, 1)
		w.agrees("done")
	}
	w.wants(locking(txn(1, 6), excl("e", "f")), 0, 1)
	w.agrees("the next one")
}

func TestErrorsOfRanges(t *testing.T) { // P19.2
	w := begin(t, 1<<20, lsm.Options{})
	w.does(locking(a, excl("k", "l")))
	w.does(locking(b, excl("k", "l"), excl("p", "q")))
	good, bad := excl("a", "b"), excl("b", "a")
	deep := shared(long(1025), "")
	for _, x := range []api.Txn{a, b, c} { // who holds, who waits, who isn't known
		for _, each := range []struct {
			ranges []api.Range
			want   api.Errno
		}{
			{nil, api.ErrForm}, {[]api.Range{bad}, api.ErrForm}, {[]api.Range{good, bad}, api.ErrForm}, {[]api.Range{shared("a", "a")}, api.ErrForm}, {[]api.Range{shared("a\x00", "a")}, api.ErrForm},
			{[]api.Range{deep}, api.ErrSize}, {[]api.Range{bad, deep}, api.ErrSize}, {[]api.Range{good, shared("a", long(1025))}, api.ErrSize}, {[]api.Range{shared(long(1026), long(1025))}, api.ErrSize},
			{slices.Repeat([]api.Range{good}, 65), api.ErrSize}, {append(slices.Repeat([]api.Range{good}, 64), bad), api.ErrSize}, {slices.Repeat([]api.Range{bad}, 64), api.ErrForm},
		} {
			w.wants(locking(x, each.ranges...), each.want, 0)
			w.agrees("ranges that are wrong")
		}
	}
	w.wants(locking(txn(4, 4), slices.Repeat([]api.Range{shared("a", "b")}, 64)...), 0, 1)
	w.wants(locking(txn(5, 5), shared(long(1024), long(1024)+"")), api.ErrForm, 0)
	w.wants(locking(txn(5, 5), shared(long(1023), long(1024))), 0, 2)
	w.agrees("many")
}

func TestCovered(t *testing.T) { // P19.2: what is held already isn't asked for
	held := []api.Range{shared("a", "f"), excl("c", "d"), shared("f", "k"), excl("m", ""), shared("", "\x00")}
	for _, each := range []struct {
		r       api.Range
		covered bool
	}{
		{shared("a", "f"), true}, {shared("a", "b"), true}, {shared("e", "f"), true}, {shared("b", "e"), true}, {shared("c", "d"), true}, {excl("c", "d"), true}, {excl("c\x00", "d"), true}, {excl("c", "cz"), true},
		{shared("a", "f\x00"), false}, {shared("`", "b"), false}, {shared("a", "k"), false}, {excl("a", "b"), false}, {excl("b\xff", "d"), false}, {excl("c", "d\x00"), false}, {shared("a", ""), false}, {shared("e", "g"), false},
		{shared("f", "k"), true}, {excl("f", "k"), false}, {shared("m", ""), true}, {excl("m", ""), true}, {excl("z", ""), true}, {excl("m", "n"), true}, {excl("\xff\xff", ""), true}, {excl("l\xff", ""), false}, {shared("", ""), false},
		{shared("", "\x00"), true}, {excl("", "\x00"), false}, {shared("", "\x00\x00"), false}, {shared("\x00", "\x00\x00"), false},
	} {
		w := begin(t, 1<<20, lsm.Options{})
		w.wants(locking(a, held...), 0, 1)
		w.does(committing(txn(9, 9), 5)) // so that a grant shows by its top
		want := uint64(1)
		if !each.covered {
			want = 6
		}
		if r := w.wants(locking(a, each.r), 0, 1); r.Ts != want {
			t.Errorf("%v: Ts = %d; want %d", each.r, r.Ts, want)
		}
		if r := w.wants(locking(a, held[0], each.r, held[1]), 0, 1); r.Ts != want {
			t.Errorf("%v among others: Ts = %d; want %d", each.r, r.Ts, want)
		}
		w.agrees("asked for")
	}
	w := begin(t, 1<<20, lsm.Options{})
	w.does(locking(a, shared("a", "b")))
	w.does(locking(b, shared("a", "b")))
	w.does(locking(c, excl("a", "b"))) // waits: who asks for nothing new doesn't wait behind it
	w.wants(locking(a, shared("a", "b")), 0, 1)
	w.wants(locking(a, shared("a", "b"), shared("a", "a\x00")), 0, 1)
	w.wants(locking(txn(4, 1), shared("a", "b")), 0, 2)
	w.agrees("beside who waits")
}

func TestTopsAndFloors(t *testing.T) { // P19.2, P19.4
	w := begin(t, 1<<20, lsm.Options{})
	ts := func(x api.Txn, want, closed uint64, ranges ...api.Range) {
		t.Helper()
		if r := w.wants(locking(x, ranges...), 0, 1); r.Ts != want || w.m.Closed() != closed {
			t.Errorf("Ts = %d, Closed = %d; want %d, %d", r.Ts, w.m.Closed(), want, closed)
		}
		w.agrees("locked")
	}
	ts(a, 1, 0, excl("a", "b"))
	w.does(committing(txn(9, 1), 10)) // the clock goes on
	ts(b, 11, 0, excl("c", "d"))
	ts(a, 1, 0, excl("a", "b"))  // nothing new
	ts(a, 11, 0, excl("b", "c")) // its top rises, its floor doesn't
	w.does(committing(txn(9, 2), 4))
	if w.m.Clock() != 10 {
		t.Errorf("the clock is %d", w.m.Clock())
	}
	w.does(dropping(a))
	if w.m.Closed() != 10 {
		t.Errorf("Closed = %d", w.m.Closed())
	}
	w.does(committing(txn(9, 3), 20))
	ts(c, 21, 10, shared("e", ""))
	w.wants(locking(txn(4, 1), excl("c", "d")), 0, 2) // waits without a floor
	w.does(committing(b, 30, put("c", "x")))
	if w.m.Closed() != 20 || w.m.Clock() != 30 {
		t.Errorf("Closed = %d, Clock = %d", w.m.Closed(), w.m.Clock())
	}
	ts(txn(4, 1), 31, 20, excl("c", "d")) // it was granted when b went
	w.agrees("granted later")
}

func TestRefused(t *testing.T) { // P19.2
	w := begin(t, 1<<20, lsm.Options{})
	w.does(locking(a, shared("a", "b")))
	w.does(committing(txn(9, 1), 5))
	w.does(locking(b, shared("a", "b")))
	w.wants(locking(a, excl("a", "b")), 0, 2)
	w.wants(locking(b, excl("a", "b")), 0, 3) // it came last
	for range 2 {
		w.wants(locking(b, shared("a", "b")), 0, 3) // though it holds it
		w.wants(locking(b, shared("x", "y")), 0, 3)
		w.wants(locking(b), api.ErrForm, 0)
	}
	if w.m.Known(b) != 3 || w.m.Known(a) != 2 || w.m.Closed() != 0 {
		t.Errorf("Known = %d, %d; Closed = %d", w.m.Known(b), w.m.Known(a), w.m.Closed())
	}
	w.agrees("refused")
	w.does(committing(b, 6)) // holds it still
	if w.m.Known(b) != 0 || w.m.Known(a) != 1 {
		t.Errorf("Known = %d, %d", w.m.Known(b), w.m.Known(a))
	}
	w.wants(locking(b, shared("x", "y")), api.ErrOld, 0)
	w.wants(locking(txn(2, 2), shared("x", "y")), 0, 1)
	w.agrees("refused no more")

	w = begin(t, 1<<20, lsm.Options{}) // one that waits is the victim of another one's Lock, and has a floor or not
	w.does(locking(a, excl("a", "b")))
	w.does(locking(b, excl("c", "d")))
	w.does(locking(c, excl("e", "f")))
	w.does(locking(c, excl("c", "d")))
	w.does(locking(b, excl("a", "b")))
	w.wants(locking(a, excl("e", "f")), 0, 2)
	if w.m.Known(c) != 3 {
		t.Errorf("Known = %d", w.m.Known(c))
	}
	w.agrees("a victim")
	w.does(committing(c, 9, put("e", "x"))) // what it holds it may write
	if w.m.Known(a) != 1 || w.m.Known(b) != 2 {
		t.Errorf("Known = %d, %d", w.m.Known(a), w.m.Known(b))
	}
	w.agrees("gone")
	w.does(committing(a, 10))
	w.does(locking(b, excl("a", "b")))
	w.agrees("and on")
}

func TestVictimsGoOn(t *testing.T) { // P19.2: where a victim gives way, others are granted at once
	w := begin(t, 1<<20, lsm.Options{})
	w.does(locking(a, shared("a", "b"), shared("g", "h")))
	w.does(locking(b, shared("c", "d")))
	w.wants(locking(b, excl("a", "b"), excl("g", "h")), 0, 2)
	w.wants(locking(c, shared("g", "h")), 0, 2) // waits for b alone, which is ahead of it
	w.does(committing(txn(9, 1), 7))
	w.wants(locking(a, excl("c", "d")), 0, 2) // b gives way
	if w.m.Known(b) != 3 || w.m.Known(c) != 1 || w.m.Known(a) != 2 {
		t.Errorf("Known = %d, %d, %d", w.m.Known(a), w.m.Known(b), w.m.Known(c))
	}
	if r := w.wants(locking(c, shared("g", "h")), 0, 1); r.Ts != 8 {
		t.Errorf("%+v", r)
	}
	w.agrees("b has given way")
	w.does(dropping(b))
	if r := w.wants(locking(a, excl("c", "d")), 0, 1); r.Ts != 8 || w.m.Closed() != 0 {
		t.Errorf("%+v, Closed %d", r, w.m.Closed())
	}
	w.agrees("b has gone")
}

func TestPairs(t *testing.T) { // P19.2
	w := begin(t, 1<<20, lsm.Options{})
	w.does(locking(a, excl("", "")))
	w.does(committing(a, 5, put("", "0"), put("a", "1"), put("b", "2"), put("c", "3"), put("\xff", "4")))
	w.does(locking(txn(1, 2), excl("", "")))
	w.does(committing(txn(1, 2), 9, gone("b"), put("c", "5"), put("c", "6")))
	for _, ranges := range [][]api.Range{{shared("", "")}, {shared("a", "c")}, {shared("c", ""), shared("a", "b")}, {shared("a", ""), shared("a", "a\x00"), shared("a", "")}, {shared("b", "c")}} {
		var want []string
		for _, r := range ranges {
			for _, key := range []string{"", "a", "c", "\xff"} {
				if key >= string(r.From) && (len(r.To) == 0 || key < string(r.To)) {
					want = append(want, key)
				}
			}
		}
		r := w.wants(locking(b, ranges...), 0, 1)
		var got []string
		for _, p := range r.Pairs {
			got = append(got, string(p.Key))
		}
		if !slices.Equal(got, want) || r.Ts != 10 {
			t.Errorf("%v: %q, %d; want %q", ranges, got, r.Ts, want)
		}
	}
	w.agrees("read")
}

// weight is the bound that the document names for the table's bytes: they have at most one and a quarter times as many.
func weight(p *plain) int {
	n := 0
	for _, x := range p.locks.All() {
		n += 40
		for _, r := range p.locks.Held(x) { // nobody waits
			n += 12 + len(r.From) + len(r.To)
		}
	}
	return n
}

// key makes keys of n bytes in their order.
func key(i, n int) string { return fmt.Sprintf("%06d", i) + long(n-6) }

func TestFullLocks(t *testing.T) { // P19.2
	for _, size := range []int{6, 100, 1000} {
		for _, count := range []int{1, 7, 64} {
			if size*count > 10000 {
				continue // one would be too much
			}
			w := begin(t, 1<<22, kinds[0])
			next, full := 0, 0
			ask := func() Cmd {
				var ranges []api.Range
				for range count {
					ranges = append(ranges, excl(key(next, size), key(next+1, size)))
					next += 2
				}
				return locking(txn(uint64(next)<<8, 1<<31), ranges...)
			}
			for full < 3 {
				c := ask()
				index := w.p.applied + 1
				r, e := w.m.Apply(index, Encode(c))
				if e != api.OK {
					t.Fatalf("Apply = %v", e)
				}
				twin := w.p.clone()
				want := twin.do(index, c)
				bound := weight(twin)
				switch {
				case r.Err == api.ErrFull && sameResult(r, Result{Err: api.ErrFull}):
					if bound*5/4 <= 30000 {
						t.Fatalf("full with the bound %d", bound)
					}
					w.p.applied = index
					full++
				case sameResult(r, want):
					if len(twin.locks.Encode()) > 30000 {
						t.Fatalf("not full with the bound %d", bound)
					}
					w.p = twin
				default:
					t.Fatalf("Apply(%s) = %+v; want %+v", told(c), r, want)
				}
			}
			w.agrees("full")
			all := w.m.Open()
			if len(all) < 30000*4/5/(40+count*(12+2*size))-1 {
				t.Fatalf("%d transactions alone", len(all))
			}
			w.does(locking(all[0], w.p.locks.Held(all[0])...)) // what is held is granted
			w.does(committing(all[0], 1<<62))                  // the clock is as long as it can be, and each one's top
			w.does(committing(all[1], 1<<62))
			c := ask()
			w.wants(c, 0, 1)
			w.agrees("not full any more")
			if other, _ := restores(t, dumps(t, w.m), w.o); other != nil {
				agrees(t, "restored", other, w.p)
			}
		}
	}
}

func TestFullLocksUndone(t *testing.T) { // P19.2: what is too much is as if it hadn't been asked
	w := begin(t, 1<<22, kinds[0])
	w.does(locking(a, shared("a", "b"), shared("g", "h")))
	w.does(locking(b, shared("c", "d")))
	w.does(locking(b, excl("a", "b"), excl("g", "h")))
	w.does(locking(c, shared("g", "h"))) // waits for b alone
	var most []api.Range
	for i := range 40 {
		most = append(most, excl("x"+key(i, 1000), "x"+key(i, 1000)+"\x00"))
	}
	over := append(most[:20:20], excl("c", "d"))
	for range 2 {
		for _, x := range []Cmd{locking(a, over...), locking(txn(7, 7), over...), locking(txn(7, 7), over[:20]...)} { // with a circle, of one that isn't known yet, and of one that could go
			w.p.applied++
			if r, e := w.m.Apply(w.p.applied, Encode(x)); e != api.OK || !sameResult(r, Result{Err: api.ErrFull}) {
				t.Fatalf("Apply(%s) = %+v, %v", told(x), r, e)
			}
			w.agrees("too much")
		}
	}
	w.wants(locking(b, shared("y", "z")), 0, 2)
	w.wants(locking(a, excl("c", "d")), 0, 2)
	if w.m.Known(b) != 3 || w.m.Known(c) != 1 {
		t.Errorf("Known = %d, %d", w.m.Known(b), w.m.Known(c))
	}
	w.agrees("a circle")
	w.wants(locking(txn(7, 7), most[:8]...), 0, 1)
	w.agrees("there is room for less")
}

func TestManyWaiting(t *testing.T) { // P19.2: what many wait for they hold at last, when the table was full
	w := begin(t, 1<<22, kinds[0])
	w.does(locking(a, excl("", "")))
	waits := 0
	for i := 0; ; i++ {
		c := locking(txn(uint64(100+i), 1<<32-2), shared("a"+long(40), "b"+long(40)), shared("c"+long(20), "d"+long(20)))
		index := w.p.applied + 1
		r, _ := w.m.Apply(index, Encode(c))
		if r.Err == api.ErrFull {
			w.p.applied = index
			break
		}
		if want := w.p.do(index, c); !sameResult(r, want) {
			t.Fatalf("%+v; want %+v", r, want)
		}
		waits++
	}
	if waits < 80 {
		t.Fatalf("%d alone wait", waits)
	}
	w.agrees("all wait")
	w.does(committing(a, 1<<62))
	for i := range waits {
		if x := txn(uint64(100+i), 1<<32-2); w.m.Known(x) != 1 {
			t.Fatalf("%v: Known = %d", x, w.m.Known(x))
		}
	}
	w.agrees("all hold")
}

func TestDecide(t *testing.T) { // P19.2
	w := begin(t, 1<<22, lsm.Options{Mem: 100000})
	w.does(deciding(a, 7, "first", put("k", "x"), put("k", "y"), gone("l"), api.Write{Key: []byte("m"), Value: []byte("z"), Gone: true}))
	for _, again := range []Cmd{deciding(a, 8, "second"), {Kind: Decide, Txn: a}, {Kind: Decide, Txn: a, Commit: true, Reply: []byte(long(30001))}, {Kind: Decide, Txn: a, Ts: 1 << 62, Writes: []api.Write{put("x", "y")}}} {
		if r := w.wants(again, 0, 0); r.Record.Ts != 7 || !r.Record.Commit || len(r.Record.Writes) != 4 || string(r.Record.Reply) != "first" {
			t.Errorf("again: %+v", r)
		}
	}
	w.does(Cmd{Kind: Decide, Txn: b, Ts: 5, Writes: slices.Repeat([]api.Write{put(long(400), long(400))}, 200), Reply: []byte("no")}) // without Commit its writes don't count
	if r, there := w.m.Record(b); !there || r.Commit || r.Ts != 0 || len(r.Writes) > 0 || string(r.Reply) != "no" {
		t.Errorf("Record = %+v, %v", r, there)
	}
	w.does(deciding(b, 1, "too late"))
	for i, each := range []struct {
		c    Cmd
		want api.Errno
	}{
		{deciding(c, 1, long(30000)), 0}, {deciding(c, 1, long(30001)), api.ErrSize}, {Cmd{Kind: Decide, Reply: []byte(long(30000))}, 0}, {Cmd{Kind: Decide, Reply: []byte(long(30001))}, api.ErrSize},
		{deciding(c, 1, "", slices.Repeat([]api.Write{{}}, 100)...), 0}, {deciding(c, 1, "", slices.Repeat([]api.Write{{}}, 101)...), api.ErrSize},
		{deciding(c, 1, long(30000-16), api.Write{}), 0}, {deciding(c, 1, long(30000-15), api.Write{}), api.ErrSize},
		{deciding(c, 1, "r", put(long(400), long(30000-417))), 0}, {deciding(c, 1, "r", put(long(401), long(30000-417))), api.ErrSize}, {deciding(c, 1, "", put(long(30000-16), "")), 0},
		{deciding(c, 1, "", slices.Repeat([]api.Write{put(long(100), long(184))}, 100)...), 0}, {deciding(c, 1, "r", slices.Repeat([]api.Write{put(long(100), long(184))}, 100)...), api.ErrSize},
		{deciding(c, 0, ""), 0}, {Cmd{Kind: Decide}, 0}, {deciding(c, 1<<62, "", gone("")), 0},
	} {
		x := each.c
		x.Txn = txn(50, uint64(i))
		w.wants(x, each.want, 0)
		if _, there := w.m.Record(x.Txn); there != (each.want == 0) {
			t.Errorf("%s: Record is there: %v", told(x), there)
		}
		if each.want != 0 { // a lesser one may come behind it
			w.wants(Cmd{Kind: Decide, Txn: x.Txn, Reply: []byte("less")}, 0, 0)
		}
	}
	w.agrees("decided")
	if len(w.m.Open()) > 0 || w.m.Clock() > 0 {
		t.Errorf("a decision locks, or moves the clock")
	}
}

func TestFinish(t *testing.T) { // P19.2
	mine := []api.Range{excl("a", "c"), shared("c", "e"), excl("g", ""), shared("a", "b")}
	wide := func(n, key, value int) []api.Write {
		var out []api.Write
		for i := range n {
			out = append(out, put("z"+fmt.Sprintf("%03d", i)+long(key-4), long(value)))
		}
		return out
	}
	for i, each := range []struct {
		ts     uint64
		writes []api.Write
		want   api.Errno
	}{
		{6, nil, 0}, {7, nil, 0}, {1 << 62, nil, 0}, {5, nil, api.ErrOld}, {0, nil, api.ErrOld},
		{6, []api.Write{put("a", "x"), put("b\xff", ""), gone("g"), put("\xff\xff", "y"), put("a", "z")}, 0}, {5, []api.Write{put("a", "x")}, api.ErrOld},
		{6, []api.Write{put("c", "x")}, api.ErrGuard}, {5, []api.Write{put("c", "x")}, api.ErrGuard}, {6, []api.Write{put("d", "x")}, api.ErrGuard}, {6, []api.Write{put("e", "x")}, api.ErrGuard}, {6, []api.Write{gone("")}, api.ErrGuard}, {6, []api.Write{put("`\xff", "")}, api.ErrGuard}, {6, []api.Write{put("a", ""), put("f\xff", "")}, api.ErrGuard},
		{6, []api.Write{put("z"+long(399), "x")}, 0}, {6, []api.Write{put("z"+long(400), "x")}, api.ErrGuard}, {6, []api.Write{gone("z" + long(400))}, api.ErrGuard},
		{6, []api.Write{put("z", long(30000))}, 0}, {6, []api.Write{put("z", long(30001))}, api.ErrGuard},
		{6, []api.Write{{Key: []byte("z"), Value: []byte("x"), Gone: true}}, api.ErrGuard}, {6, []api.Write{{Key: []byte("z"), Value: []byte{}, Gone: true}}, 0},
		{6, wide(100, 4, 0), 0}, {6, wide(101, 4, 0), api.ErrGuard}, {6, slices.Repeat([]api.Write{put("z", "x")}, 100), 0}, {6, slices.Repeat([]api.Write{put("z", "x")}, 101), api.ErrGuard},
		{6, wide(100, 300, 300), 0}, {6, append(wide(99, 300, 300), put("z", long(600))), api.ErrGuard}, {6, wide(2, 4, 29996), 0}, {6, append(wide(2, 4, 29996), gone("z")), api.ErrGuard},
	} {
		w := begin(t, 1<<22, kinds[i%3])
		w.does(locking(txn(8, 1), excl("", "")))
		w.does(committing(txn(8, 1), 5, put("a", "old"), put("g", "old")))
		w.wants(locking(a, mine...), 0, 1)
		w.wants(locking(b, excl("a", "b")), 0, 2)
		w.agrees("locked")
		w.wants(committing(a, each.ts, each.writes...), each.want, 0)
		clock := uint64(5)
		if each.want == 0 {
			clock = each.ts
		}
		if w.m.Clock() != clock || w.m.Known(a) != 0 || w.m.Known(b) != 1 || w.m.Closed() != clock {
			t.Errorf("%d: Clock %d, Known %d, %d, Closed %d", i, w.m.Clock(), w.m.Known(a), w.m.Known(b), w.m.Closed())
		}
		w.agrees("finished")
		w.wants(locking(a, mine...), api.ErrOld, 0)
		if r := w.wants(locking(b, excl("a", "b")), 0, 1); r.Ts != clock+1 {
			t.Errorf("%d: %+v", i, r)
		}
		w.wants(committing(a, each.ts, each.writes...), 0, 0) // of one that the locks don't know nothing is written
		w.agrees("finished again")
	}
}

func TestFinishOfOthers(t *testing.T) { // P19.2: of one that waits, that isn't known, or without Commit
	w := begin(t, 1<<20, lsm.Options{})
	w.does(locking(a, excl("a", "b")))
	w.wants(locking(b, excl("a", "b")), 0, 2)
	w.wants(committing(b, 1, put("a", "x")), api.ErrGuard, 0) // it waits for it alone
	if w.m.Known(b) != 0 || w.m.Clock() != 0 {
		t.Errorf("Known = %d, Clock = %d", w.m.Known(b), w.m.Clock())
	}
	w.wants(locking(b, excl("a", "b")), api.ErrOld, 0)
	w.wants(locking(txn(2, 2), excl("a", "b")), 0, 2)
	w.wants(committing(txn(2, 2), 0), 0, 0) // it has no top
	w.wants(committing(c, 12, put("a", "x"), put(long(500), "")), 0, 0)
	if w.m.Clock() != 12 || w.m.Closed() != 0 {
		t.Errorf("Clock = %d, Closed = %d", w.m.Clock(), w.m.Closed())
	}
	w.wants(locking(c, excl("n", "o")), api.ErrOld, 0)
	w.wants(Cmd{Kind: Finish, Txn: a, Ts: 50, Writes: []api.Write{put("a", "x"), put("b", "y")}}, 0, 0)
	if w.m.Clock() != 12 || w.m.Closed() != 12 {
		t.Errorf("Clock = %d, Closed = %d", w.m.Clock(), w.m.Closed())
	}
	if l, e := w.m.Look(nil, nil, 12); len(l) > 0 || e != api.OK {
		t.Errorf("Look = %v, %v", l, e)
	}
	w.agrees("without Commit")
}

func TestOneTimestamp(t *testing.T) { // P19.2: two may commit with one timestamp what neither has of the other
	w := begin(t, 1<<20, lsm.Options{})
	w.does(locking(a, excl("a", "b")))
	w.does(locking(b, excl("b", "c")))
	w.wants(committing(a, 5, put("a", "x")), 0, 0)
	w.wants(committing(b, 5, put("b", "y")), 0, 0)
	w.does(locking(c, excl("", "")))
	w.wants(committing(c, 5, put("a", "z")), api.ErrOld, 0)
	w.agrees("at one timestamp")
}

func TestLook(t *testing.T) { // P19.4
	w := begin(t, 1<<20, lsm.Options{})
	type looked struct {
		ts   uint64
		want []api.Pair
	}
	var all []looked
	closed := uint64(0)
	for i := range uint64(30) {
		x := txn(i%4, i+1)
		w.does(locking(x, excl(string(rune('a'+i%7)), ""), shared("a", "b")))
		if i%5 == 4 {
			w.does(dropping(x))
		} else if w.m.Known(x) == 1 {
			w.does(committing(x, w.m.marks[x].top+i%3, put(string(rune('a'+i%7)), fmt.Sprint(i))))
		}
		if w.m.Closed() < closed {
			t.Fatalf("Closed falls from %d to %d", closed, w.m.Closed())
		}
		closed = w.m.Closed()
		for ts := w.m.Low(); ts <= closed; ts++ {
			l, e := w.m.Look(nil, nil, ts)
			if e != api.OK {
				t.Fatalf("Look(%d) = %v", ts, e)
			}
			all = append(all, looked{ts, l})
		}
		for _, x := range all {
			l, e := w.m.Look(nil, nil, x.ts)
			if x.ts < w.m.Low() {
				if e != api.ErrOld {
					t.Fatalf("Look(%d) = %v", x.ts, e)
				}
			} else if e != api.OK || !samePairs(l, x.want) {
				t.Fatalf("Look(%d) = %q, %v; was %q", x.ts, l, e, x.want)
			}
		}
		if i%6 == 5 {
			w.tidies(closed - 2)
		}
		w.agrees("a step")
	}
	if closed < 20 {
		t.Errorf("Closed = %d", closed)
	}
}

func TestTidy(t *testing.T) { // P19.2, P19.4
	w := begin(t, 1<<22, kinds[0])
	for i := range uint64(70) {
		w.does(locking(txn(1, i+1), excl("a", "c")))
		w.does(committing(txn(1, i+1), i+1, put("a", fmt.Sprint(i)), gone("b")))
	}
	w.does(locking(b, shared("x", "y"))) // Closed stays at 70
	w.does(locking(a, excl("a", "b")))
	w.does(locking(txn(1, 71), excl("a", "b")))
	w.does(committing(txn(1, 71), 90, put("a", "later")))
	for i, each := range []struct {
		below uint64
		want  int
		low   uint64
	}{{0, 0, 0}, {1, 1, 1}, {2, 2, 2}, {1, 0, 2}, {0, 0, 2}, {40, 50, 40}, {40, 25, 40}, {math.MaxUint64, 50, 70}, {71, 10, 70}, {1 << 62, 1, 70}, {math.MaxUint64, 0, 70}} {
		before := w.m.Applied()
		n := w.tidies(each.below)
		if w.m.Low() != each.low || w.m.Applied() != before || n != each.want {
			t.Errorf("%d: Tidy(%d) = %d, Low %d; want %d, %d", i, each.below, n, w.m.Low(), each.want, each.low)
		}
		w.agrees("tidied")
	}
	w.m.Collect(80, 1) // by somebody who doesn't ask what is closed
	for _, ts := range []uint64{0, 69, 70, 71, 79} {
		if l, e := w.m.Look(nil, nil, ts); l != nil || e != api.ErrOld { // the lesser error
			t.Errorf("Look(%d) = %v, %v", ts, l, e)
		}
	}
	if l, e := w.m.Look(nil, nil, 80); l != nil || e != api.ErrWait {
		t.Errorf("Look(80) = %v, %v", l, e)
	}
}
