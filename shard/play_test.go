package shard

import (
	"bytes"
	"fmt"
	"math"
	"math/rand/v2"
	"slices"
	"testing"

	"caisson/api"
	"caisson/codec"
	"caisson/disk"
	"caisson/lsm"
	"caisson/mvcc"
)

type (
	version   = mvcc.Version
	storeType = mvcc.Store
)

func sameVersion(x, y version) bool {
	return bytes.Equal(x.Key, y.Key) && x.Ts == y.Ts && bytes.Equal(x.Value, y.Value) && x.Gone == y.Gone
}

// keys are those that scripts lock and write.
var keys = []string{"", "\x00", "a", "a\x00", "b", "c", "\xff"}

// anyRange is a range; seldom it isn't in form.
func anyRange(r *rand.Rand) api.Range {
	from := r.IntN(len(keys))
	to := from + 1 + r.IntN(2)
	x := shared(keys[from], "")
	if to < len(keys) {
		x.To = []byte(keys[to])
	}
	if r.IntN(40) == 0 {
		x.From, x.To = x.To, x.From
	}
	x.Excl = r.IntN(2) == 0
	return x
}

// anyTxn is mostly one that can go on.
func anyTxn(r *rand.Rand, p *plain) api.Txn {
	if all := p.locks.All(); len(all) > 0 && r.IntN(2) == 0 {
		return all[r.IntN(len(all))]
	}
	session := uint64(r.IntN(5))
	return txn(session, p.done[session]+uint64(r.IntN(4)))
}

// anyWrites are mostly some that a transaction may write.
func anyWrites(r *rand.Rand, p *plain, x api.Txn) []api.Write {
	var out []api.Write
	held := p.locks.Held(x)
	for range r.IntN(4) {
		w := put(keys[r.IntN(len(keys))], fmt.Sprint("value ", r.IntN(1000)))
		if len(held) > 0 && r.IntN(20) > 0 {
			h := held[r.IntN(len(held))]
			if !h.Excl && r.IntN(9) > 0 {
				continue
			}
			w.Key = bytes.Clone(h.From)
		}
		if r.IntN(3) == 0 {
			w.Value, w.Gone = nil, true
		}
		out = append(out, w)
	}
	return out
}

// anyCmd is a command of which some numbers tell.
func anyCmd(r *rand.Rand, p *plain) Cmd {
	x := anyTxn(r, p)
	ts := max(p.top[x], 1) + uint64(r.IntN(3))
	if r.IntN(9) == 0 {
		ts = uint64(r.IntN(int(p.clock) + 2))
	}
	switch k := r.IntN(10); {
	case k < 4:
		var ranges []api.Range
		for range 1 + r.IntN(3) {
			ranges = append(ranges, anyRange(r))
		}
		return locking(x, ranges...)
	case k < 5:
		c := deciding(x, ts, fmt.Sprint(r.IntN(100)), anyWrites(r, p, x)...)
		c.Commit = r.IntN(4) > 0
		return c
	case k < 9:
		return committing(x, ts, anyWrites(r, p, x)...)
	}
	return dropping(x)
}

// tries does a command that may find no room, or a dying disk. It answers the states that the machine may be in then, the one ahead of it first.
func (w *life) tries(what string, index uint64, c Cmd) ([]*plain, api.Errno) {
	w.Helper()
	next := w.p.clone()
	want := next.do(index, c)
	got, e := w.m.Apply(index, Encode(c))
	if e != api.OK {
		if !sameResult(got, Result{}) || e != api.ErrFull && e != api.ErrDead {
			w.Fatalf("%s: Apply(%s) = %+v, %v", what, told(c), got, e)
		}
		agrees(w.T, what, w.m, w.p)
		return []*plain{w.p, next}, e
	}
	if !sameResult(got, want) {
		w.Fatalf("%s: Apply(%s) = %+v; want %+v", what, told(c), got, want)
	}
	w.p = next
	return []*plain{next}, e
}

// tidying tidies, and may find no room, or a dying disk.
func (w *life) tidying(what string, below uint64) ([]*plain, api.Errno) {
	w.Helper()
	next := w.p.clone()
	want := next.tidy(below)
	n, e := w.m.Tidy(below)
	if e != api.OK {
		if n != 0 || e != api.ErrFull && e != api.ErrDead {
			w.Fatalf("%s: Tidy(%d) = %d, %v", what, below, n, e)
		}
		agrees(w.T, what, w.m, w.p)
		return []*plain{w.p, next}, e
	}
	if n != want {
		w.Fatalf("%s: Tidy(%d) = %d; want %d", what, below, n, want)
	}
	w.p = next
	return []*plain{next}, e
}

// oneOf opens the machine on the disk, which must be in one of these states.
func (w *life) oneOf(what string, states []*plain) {
	w.Helper()
	w.open()
	w.p = states[0]
	for _, p := range states {
		list, _ := w.m.Versions()
		if w.m.Applied() == p.applied && w.m.Low() == p.low && len(list) == len(p.versions()) {
			w.p = p
		}
	}
	w.agrees(what)
}

// moves goes on with what is restored of a dump. Where the empty key has two versions next to one another, one that nobody needs may be gone.
func (w *life) moves(what string) {
	w.Helper()
	b := dumps(w.T, w.m)
	m, d := restores(w.T, b, w.o)
	list, _ := m.Versions()
	if len(list)+1 == len(w.p.versions()) {
		for ts := range w.p.there[""] {
			if !slices.ContainsFunc(list, func(v version) bool { return len(v.Key) == 0 && v.Ts == ts }) {
				if w.p.there[""][ts+1].Key == nil && len(w.p.there[""]) < 2 || ts > w.p.low {
					w.Fatalf("%s: the version at %d is missing", what, ts)
				}
				delete(w.p.there[""], ts)
			}
		}
	} else if again := dumps(w.T, m); !bytes.Equal(again, b) {
		w.Fatalf("%s: a dump of what is restored has %q; want %q", what, again, b)
	}
	w.d, w.m = d, m
	w.agrees(what)
}

// play does a script's steps, each of two bytes.
func play(t *testing.T, room int, o lsm.Options, script []byte) {
	w := begin(t, room, o)
	for i := 0; i+1 < len(script); i += 2 {
		op, arg := script[i]%32, int(script[i+1])
		what := fmt.Sprintf("%v, room %d, the step %d: %d %d", o, room, i, op, arg)
		r := rand.New(rand.NewPCG(uint64(arg), uint64(i)))
		states := []*plain{w.p}
		closed := w.m.Closed()
		switch op {
		case 0:
			w.d.Arm(arg % 12)
		case 1:
			w.d.Crash(arg)
			w.open()
		case 2:
			w.m.Flush()
		case 3:
			w.m.Compact(arg % 3)
		case 4:
			if !w.d.Dead() {
				w.moves(what)
			}
		case 5, 6:
			states, _ = w.tidying(what, []uint64{closed, closed / 2, closed - 1, closed + 5, math.MaxUint64}[arg%5])
		case 7:
			if _, e := w.m.Apply(w.p.applied, nil); e != api.ErrOld {
				t.Fatalf("%s: Apply of an old index: %v", what, e)
			}
		case 8:
			w.open()
		default:
			states, _ = w.tries(what, w.p.applied+1+uint64(arg%3), anyCmd(r, w.p))
		}
		if w.d.Dead() {
			w.d.Crash([]int{arg, arg / 3, arg * 7}[:arg%4%3]...)
			w.oneOf(what, states)
		}
		if w.m.Closed() < closed {
			t.Fatalf("%s: Closed falls from %d to %d", what, closed, w.m.Closed())
		}
		if i%8 == 0 || op < 9 {
			w.agrees(what)
		}
	}
	w.d.Crash()
	w.open()
	w.agrees("at the end")
}

func TestAnyCommands(t *testing.T) { // P19.2, P19.3, P19.4, P19.5
	for seed := range uint64(90) {
		r := rand.New(rand.NewPCG(seed, 19))
		script := make([]byte, 2*100)
		for i := range script {
			script[i] = byte(r.Uint32())
		}
		room := []int{1 << 20, 4000, 1 << 20, 9000}[seed%4]
		play(t, room, kinds[int(seed/4)%len(kinds)], script)
	}
}

// FuzzPlay: as TestAnyCommands, with scripts that are looked for.
func FuzzPlay(f *testing.F) { // P1, P19.2, P19.3, P19.4, P19.5
	f.Add([]byte{9, 1, 10, 2, 0, 4, 12, 3, 13, 5, 1, 7, 14, 0, 4, 9, 15, 1, 5, 11, 4, 1, 16, 9}, uint16(3000), uint8(1))
	f.Fuzz(func(t *testing.T, script []byte, room uint16, kind uint8) {
		play(t, int(room), kinds[int(kind)%len(kinds)], script[:min(len(script), 2*40)])
	})
}

func TestTwins(t *testing.T) { // P19.5: two that are applied the same are alike, whatever else is done to one of them
	for seed := range uint64(20) {
		r := rand.New(rand.NewPCG(seed, 5))
		one, two := begin(t, 1<<22, kinds[seed%3]), begin(t, 1<<22, kinds[(seed+1)%3])
		for i := range 60 {
			c := anyCmd(r, one.p)
			x, y := one.does(c), two.does(c)
			if !sameResult(x, y) {
				t.Fatalf("Apply(%s) = %+v and %+v", told(c), x, y)
			}
			switch i % 10 {
			case 3:
				one.open()
			case 5:
				one.d.Crash()
				one.open()
			case 7:
				one.moves("restored")
			}
			if !bytes.Equal(dumps(t, one.m), dumps(t, two.m)) && len(one.p.there[""]) == len(two.p.there[""]) {
				t.Fatalf("behind %s the dumps aren't alike", told(c))
			}
		}
		one.agrees("one")
		two.agrees("two")
	}
}

// story are commands of which each changes something.
func story() []Cmd {
	return []Cmd{
		locking(a, excl("a", "b"), shared("k", "l")), locking(b, excl("a", "b")), locking(c, shared("k", "l")), deciding(a, 3, "yes", put("a", "x")),
		committing(a, 3, put("a", "x"), put("a\x00", "y")), locking(b, excl("a", "b"), excl("k", "l")), locking(c, excl("a", "b")), {Kind: Decide, Txn: c, Reply: []byte("no")},
		dropping(c), committing(b, 4, gone("a"), put("k", "z")), locking(txn(1, 2), shared("", "")), committing(txn(5, 5), 20),
	}
}

func TestEachDeath(t *testing.T) { // P19.3
	whole, nothing := 0, 0
	for _, o := range kinds {
		for _, keeps := range [][]int{nil, {9}, {1000, 3, 57}, {math.MaxInt}} {
			for arm, died := 0, true; died; arm++ {
				what := fmt.Sprintf("%v, dead behind %d, kept %v", o, arm, keeps)
				w := begin(t, 1<<20, o)
				w.d.Arm(arm)
				died = false
				for i, c := range append(story(), story()...) {
					if i >= len(story()) { // once more, of other sessions
						c.Txn.Session += 10
					}
					before := w.p.applied
					states, e := w.tries(what, before+1, c)
					if e == api.OK && i%4 == 3 {
						states, e = w.tidying(what, math.MaxUint64)
					}
					if e == api.OK {
						continue
					}
					if e != api.ErrDead || !w.d.Dead() {
						t.Fatalf("%s: %v", what, e)
					}
					if _, e := w.m.Apply(before, nil); e != api.ErrDead {
						t.Fatalf("%s: on a dead disk an old index is %v", what, e)
					}
					w.d.Crash(keeps...)
					if w.oneOf(what, states); w.p == states[0] {
						nothing++
					} else {
						whole++
					}
					died = true
					break
				}
				w.d.Arm(-1)
				w.does(locking(txn(30, 1), excl("q", "r")))
				w.does(committing(txn(30, 1), 1<<40, put("q", "behind it")))
				w.d.Crash(keeps...)
				w.open()
				w.agrees(what)
			}
		}
	}
	if whole == 0 || nothing == 0 {
		t.Errorf("the command in which it died was there %d times, and %d times not", whole, nothing)
	}
}

func TestFullDisk(t *testing.T) { // P19.3: what finds no room has changed nothing, and may be done later
	for _, o := range kinds {
		answers := map[api.Errno]int{}
		for room := 0; room < 3000; room += 97 {
			w := begin(t, room, o)
			for i, c := range story() {
				what := fmt.Sprintf("%v, room %d, the command %d", o, room, i)
				_, e := w.tries(what, uint64(i+1), c)
				answers[e]++
				w.agrees(what)
			}
		}
		if answers[api.ErrFull] < 10 || answers[api.OK] < 10 || len(answers) > 2 {
			t.Errorf("%v: the commands answered %v", o, answers)
		}
	}
}

func TestRestoreRefuses(t *testing.T) { // P19.5
	w := begin(t, 1<<20, kinds[0])
	for _, c := range story() {
		w.does(c)
	}
	whole := dumps(t, w.m)
	for _, each := range []struct {
		b    []byte
		want api.Errno
	}{{whole, api.ErrThere}, {dumps(t, begin(t, 1<<20, kinds[0]).m), api.ErrThere}, {nil, api.ErrForm}, {[]byte("no dump"), api.ErrForm}, {whole[:len(whole)-1], api.ErrForm}} {
		m, e := Restore(w.m.Store, each.b)
		if m != nil || e != each.want && !(e == api.ErrEnd && each.want == api.ErrForm) {
			t.Errorf("Restore = %v, %v; want %v", m, e, each.want)
		}
		w.agrees("not restored")
	}
	s := storeOn(t, disk.New(1<<20), kinds[0])
	if _, e := s.Write(put("x", "y")); e != api.OK {
		t.Fatal(e)
	}
	if m, e := Restore(s, whole); m != nil || e != api.ErrThere {
		t.Errorf("Restore = %v, %v", m, e)
	}
	d := disk.New(1 << 20)
	s = storeOn(t, d, kinds[0])
	d.Arm(0)
	d.Append("x", nil)
	if m, e := Restore(s, whole); m != nil || e != api.ErrDead {
		t.Errorf("Restore on a dead disk = %v, %v", m, e)
	}
	if m, e := Restore(s, whole[1:]); m != nil || e != api.ErrForm && e != api.ErrEnd {
		t.Errorf("Restore of no dump on a dead disk = %v, %v", m, e)
	}
}

// asked asks a machine for all, and goes on with it.
func asked(t *testing.T, what string, m *Machine) {
	t.Helper()
	for _, x := range append(m.Open(), a, b, c) {
		m.Known(x)
		m.Record(x)
	}
	if m.Low() > m.Closed() || m.Closed() > m.Clock() {
		t.Fatalf("%s: Low %d, Closed %d, Clock %d", what, m.Low(), m.Closed(), m.Clock())
	}
	before := m.Closed()
	for i, c := range append(story(), locking(txn(60, 1), excl("a", "")), dropping(txn(60, 1))) {
		if i >= 12 {
			c.Txn.Session += 10
		}
		if _, e := m.Apply(m.Applied()+1, Encode(c)); e != api.OK && e != api.ErrOld {
			t.Fatalf("%s: Apply = %v", what, e)
		}
		if m.Closed() < before {
			t.Fatalf("%s: Closed falls", what)
		}
	}
	if _, e := m.Tidy(m.Closed()); e != api.OK {
		t.Fatalf("%s: Tidy = %v", what, e)
	}
	if _, e := wholeOf(dumps(t, m)); !e {
		t.Fatalf("%s: its dump is none", what)
	}
}

// noDump looks whether bytes are refused, or are a machine's that goes on.
func noDump(t *testing.T, what string, b []byte) bool {
	t.Helper()
	d := disk.New(1 << 20)
	s := storeOn(t, d, kinds[0])
	m, e := Restore(s, b)
	switch {
	case e == api.OK:
		asked(t, what, m)
		return true
	case e != api.ErrForm && e != api.ErrEnd || m != nil || s.Seq() != 0 || len(d.List("")) > 0:
		t.Fatalf("%s: Restore = %v, %v; the store has %d batches", what, m, e, s.Seq())
	}
	return false
}

func TestRestoreOfSpoilt(t *testing.T) { // P19.5, P1
	w := begin(t, 1<<20, kinds[0])
	for i, c := range story() {
		w.does(c)
		if i == 9 {
			w.tidies(2)
		}
	}
	whole := dumps(t, w.m)
	taken := 0
	for n := range whole {
		if noDump(t, "cut", whole[:n]) {
			t.Fatalf("the first %d bytes of %d are taken", n, len(whole))
		}
		for _, x := range []byte{0, 1, 255, whole[n] + 1, whole[n] - 1, whole[n] ^ 128} {
			spoilt := bytes.Clone(whole)
			spoilt[n] = x
			if noDump(t, fmt.Sprintf("the byte %d is %d", n, x), spoilt) {
				taken++
			}
		}
	}
	if noDump(t, "more", append(bytes.Clone(whole), 0)) || noDump(t, "twice", slices.Concat(whole, whole)) {
		t.Errorf("more than a dump is taken")
	}
	t.Logf("of %d bytes %d changes are another machine's", len(whole), taken)
}

// changed is a machine's dump, in which something was changed.
func changed(w *life, change func(x *whole)) []byte {
	x, ok := wholeOf(dumps(w.T, w.m))
	if !ok {
		w.Fatalf("a dump is none")
	}
	change(&x)
	return x.bytes()
}

func TestRestoreOfImpossible(t *testing.T) { // P19.5: what no machine can be is no dump
	w := begin(t, 1<<20, kinds[0])
	for _, c := range story() {
		w.does(c)
	}
	w.does(locking(txn(7, 7), excl("", "")))
	marks := func(x api.Txn, k mark) func(*whole) { return func(w *whole) { w.marks[x] = k } }
	for what, change := range map[string]func(x *whole){
		"a clock too great": func(x *whole) { x.clock = 1<<62 + 1 }, "a clock below a version": func(x *whole) { x.clock = 3 }, "a Low above Closed": func(x *whole) { x.low = x.closed() + 1 },
		"more facts": func(x *whole) { x.facts++ }, "less": func(x *whole) { x.facts-- }, "another newest": func(x *whole) { x.newest = x.known[1].Key }, "none": func(x *whole) { x.newest = nil },
		"facts turned round": func(x *whole) { slices.Reverse(x.known) }, "one twice": func(x *whole) { x.known[2] = x.known[1] }, "a fact of no kind": func(x *whole) { x.known[1].Key[0] = 'x' }, "without a name": func(x *whole) { x.known[1].Key = nil },
		"a done number too great": func(x *whole) { x.known[0].Value = codec.PutU(1<<32 - 1) }, "a done number with more": func(x *whole) { x.known[0].Value = []byte{1, 1} }, "none at all": func(x *whole) { x.known[0].Value = nil },
		"a session too great":   func(x *whole) { x.known[0].Key = doneName(1<<32 - 1); x.newest = x.known[0].Key },
		"versions turned round": func(x *whole) { slices.Reverse(x.versions) }, "one twice, too": func(x *whole) { x.versions = append(x.versions, x.versions[len(x.versions)-1]) }, "one at 0": func(x *whole) { x.versions[len(x.versions)-1].Ts = 0 }, "one above the clock": func(x *whole) { x.versions[0].Ts = 21 },
		"one gone with a value": func(x *whole) { x.versions[1].Gone = true }, "a key too long": func(x *whole) { x.versions[2].Key = []byte(long(401)) }, "a value too long": func(x *whole) { x.versions[2].Value = []byte(long(30001)) },
		"who holds without a floor": marks(txn(1, 2), mark{}), "a floor above the top": marks(txn(1, 2), mark{floor: 5, top: 4}), "a top above the clock and 1": marks(txn(1, 2), mark{floor: 5, top: 22}), "a floor alone": marks(txn(1, 2), mark{floor: 5}),
		"who waits with a floor": marks(txn(7, 7), mark{floor: 5, top: 5}), "who waits refused": marks(txn(7, 7), mark{refused: true}),
		"a record of a session too great": func(x *whole) {
			x.facts++
			x.known = append(x.known, api.Pair{Key: recordName(txn(1<<32-1, 1)), Value: Record{}.bytes()})
		},
		"one of a number too great": func(x *whole) {
			x.facts++
			x.known = append(x.known, api.Pair{Key: recordName(txn(1, 1<<32-1)), Value: Record{}.bytes()})
		},
		"one fact more than there are": func(x *whole) { x.known = append(x.known, api.Pair{Key: recordName(a), Value: nil}) },
	} {
		if m := w.m; m.Known(txn(1, 2)) != 1 || m.Known(txn(7, 7)) != 2 || m.Clock() != 20 {
			t.Fatalf("Known = %d, %d; Clock = %d", m.Known(txn(1, 2)), m.Known(txn(7, 7)), m.Clock())
		}
		if noDump(t, what, changed(w, change)) {
			t.Errorf("%s: it is taken", what)
		}
	}
	for what, change := range map[string]func(x *whole){
		"as it was": func(*whole) {}, "a version at 1": func(x *whole) { x.versions[len(x.versions)-1].Ts = 1 }, "one at the clock": func(x *whole) { x.versions[0].Ts = 20 },
		"one record more": func(x *whole) {
			x.facts++
			x.known = append(x.known, api.Pair{Key: recordName(txn(1<<32-2, 1<<32-2)), Value: Record{}.bytes()})
		},
	} {
		if !noDump(t, what, changed(w, change)) {
			t.Errorf("%s: it isn't taken", what)
		}
	}
	for what, x := range map[string]Record{
		"too much": {Commit: true, Reply: []byte(long(30001))}, "too many": {Commit: true, Writes: make([]api.Write, 101)}, "a Ts too great": {Commit: true, Ts: 1<<62 + 1}, "a Ts without Commit": {Ts: 1}, "writes without Commit": {Writes: make([]api.Write, 1)},
	} {
		b := changed(w, func(w *whole) {
			for i, p := range w.known {
				if p.Key[0] == recordMark {
					w.known[i].Value = x.bytes()
				}
			}
		})
		if noDump(t, what, b) {
			t.Errorf("a record: %s: it is taken", what)
		}
	}
}

func TestRestoreOfRefused(t *testing.T) { // P19.5: who is known holds something, or waits, or is refused
	w := begin(t, 1<<20, kinds[0])
	w.does(locking(a, shared("a", "b")))
	w.does(locking(b, excl("a", "b")))
	w.does(locking(c, excl("c", "d")))
	w.does(locking(c, excl("a", "b")))
	w.does(locking(a, excl("a", "c"), excl("c", "d")))
	w.agrees("refused")
	w.moves("refused")
	x, _ := wholeOf(dumps(t, w.m))
	for who, k := range x.marks {
		if !k.refused {
			continue
		}
		b := changed(w, func(x *whole) { x.marks[who] = mark{floor: k.floor, top: k.top} })
		if holds := len(x.locks.Held(who)) > 0; noDump(t, "refused no more", b) != holds {
			t.Errorf("%v, which holds something: %v", who, holds)
		}
	}
	if !x.marks[b].refused || !x.marks[c].refused || x.marks[b].floor == x.marks[c].floor {
		t.Errorf("%v", x.marks)
	}
}

func FuzzRestore(f *testing.F) { // P19.5, P1
	w := begin(&testing.T{}, 1<<20, kinds[0])
	for _, c := range story() {
		w.m.Apply(w.m.Applied()+1, Encode(c))
		b, _ := w.m.Dump()
		f.Add(b)
	}
	f.Fuzz(func(t *testing.T, b []byte) { noDump(t, "any", b) })
}

func TestRestoreExactly(t *testing.T) { // P19.5: versions that nobody needs, too, and what is Tidied then
	for _, first := range []string{"", "a"} {
		for _, deletes := range []bool{false, true} {
			for low := range uint64(41) {
				w := begin(t, 1<<22, kinds[0])
				for i := range uint64(20) {
					x := txn(1, i+1)
					w.does(locking(x, excl(first, "c")))
					writes := []api.Write{put(first, fmt.Sprint(i)), put("b", "x")}
					if deletes && i%3 == 0 {
						writes[0] = gone(first)
					}
					w.does(committing(x, 2*i+2, writes...))
				}
				w.m.Collect(low, 2)
				m, _ := restores(t, dumps(t, w.m), kinds[1])
				one, _ := w.m.Versions()
				two, _ := m.Versions()
				if !slices.EqualFunc(one, two, sameVersion) || m.Low() != w.m.Low() {
					t.Fatalf("%q, Low %d: %v; want %v", first, low, two, one)
				}
				for {
					n, _ := w.m.Tidy(math.MaxUint64)
					k, _ := m.Tidy(math.MaxUint64)
					if n != k {
						t.Fatalf("%q, Low %d: Tidy = %d; want %d", first, low, k, n)
					}
					if n == 0 {
						break
					}
				}
			}
		}
	}
}

func TestRestoreOfMuch(t *testing.T) { // P19.5: more than goes into one batch
	w := begin(t, 1<<24, kinds[0])
	for i := range uint64(300) {
		x := txn(i%7, i+1)
		w.does(locking(x, excl(key(int(i), 8), key(int(i)+1, 8))))
		size := 10
		if i%4 == 0 {
			size = 29000
		}
		w.does(deciding(x, 5, long(size)))
		w.does(committing(x, 5+i%2, put(key(int(i), 8), long(size))))
	}
	w.moves("much")
	w.does(locking(txn(9, 9), shared("", "")))
	w.agrees("and on")
}

func TestRestoreDies(t *testing.T) { // P19.5: at each call of the disk; what is left isn't a machine's, unless it is whole
	w := begin(t, 1<<20, kinds[0])
	for _, c := range story() {
		w.does(c)
	}
	w.tidies(2)
	dump := dumps(t, w.m)
	whole, some, none := 0, 0, 0
	for _, o := range kinds {
		for _, keeps := range [][]int{nil, {math.MaxInt}, {7, 100}} {
			for arm := 0; ; arm++ {
				d := disk.New(1 << 20)
				s := storeOn(t, d, o)
				d.Arm(arm)
				m, e := Restore(s, dump)
				if e == api.OK {
					agrees(t, "restored", m, w.p)
					break
				}
				if m != nil || e != api.ErrDead {
					t.Fatalf("Restore = %v, %v", m, e)
				}
				d.Crash(keeps...)
				s = storeOn(t, d, o)
				switch m, e := Open(s); {
				case e == api.ErrForm && m == nil:
					some++
				case e != api.OK:
					t.Fatalf("Open = %v, %v", m, e)
				case s.Seq() == 0:
					agrees(t, "nothing", m, newPlain())
					none++
				default:
					agrees(t, "whole", m, w.p)
					whole++
				}
			}
		}
	}
	if whole == 0 || some == 0 || none == 0 {
		t.Errorf("whole %d, some %d, none %d", whole, some, none)
	}
}

func TestRestoreWithoutRoom(t *testing.T) { // P19.5
	w := begin(t, 1<<20, kinds[0])
	for _, c := range story() {
		w.does(c)
	}
	dump := dumps(t, w.m)
	full := 0
	for room := 0; ; room += 50 {
		m, e := Restore(storeOn(t, disk.New(room), kinds[0]), dump)
		if e == api.OK {
			agrees(t, "restored", m, w.p)
			break
		}
		if full++; m != nil || e != api.ErrFull {
			t.Fatalf("Restore = %v, %v", m, e)
		}
	}
	if full < 5 {
		t.Errorf("full %d times", full)
	}
}

func TestOpenOfOthers(t *testing.T) { // P19.2: a store of somebody else's is no machine's
	for what, spoil := range map[string]func(s storeType) api.Errno{
		"a version": func(s storeType) api.Errno { return s.Apply(5, []api.Write{put("a", "x")}) },
		"a note":    func(s storeType) api.Errno { return s.Apply(5, nil, api.Pair{Key: []byte("x"), Value: []byte("y")}) },
		"a batch":   func(s storeType) api.Errno { _, e := s.Write(put("x", "y")); return e },
		"numbers":   func(s storeType) api.Errno { return s.Apply(5, nil, api.Pair{Key: []byte(numbersName)}) },
		"locks":     func(s storeType) api.Errno { return s.Apply(5, nil, api.Pair{Key: []byte(locksName)}) },
		"numbers cut off": func(s storeType) api.Errno {
			return s.Apply(5, nil, api.Pair{Key: []byte(numbersName), Value: []byte{1, 1}})
		},
		"a clock's too great": func(s storeType) api.Errno {
			return s.Apply(5, nil, api.Pair{Key: []byte(numbersName), Value: state{clock: 1<<62 + 1}.numbers()})
		},
	} {
		s := storeOn(t, disk.New(1<<20), kinds[0])
		if e := spoil(s); e != api.OK {
			t.Fatal(e)
		}
		if m, e := Open(s); m != nil || e != api.ErrForm {
			t.Errorf("%s: Open = %v, %v", what, m, e)
		}
	}
	w := begin(t, 1<<20, kinds[0])
	w.does(locking(a, excl("a", "b")))
	good, _, _ := w.m.Note([]byte(locksName))
	for _, more := range [][]byte{{0}, {1, 0}, {1, 1}} {
		w.m.Store.Apply(5, nil, api.Pair{Key: []byte(locksName), Value: append(bytes.Clone(good), more...)})
		if m, e := Open(w.m.Store); m != nil || e != api.ErrForm {
			t.Errorf("Open of locks with more = %v, %v", m, e)
		}
	}
	marks := read(good)
	table, each := marks.bytes(), marks.bytes()
	for what, b := range map[string][]byte{"a mark more": append(bytes.Clone(each), each...), "a byte more": append(bytes.Clone(each), 0), "none": nil, "another mark": append(bytes.Clone(each[:markSize-1]), 2)} {
		w.m.Store.Apply(5, nil, api.Pair{Key: []byte(locksName), Value: codec.Frame(table, b)})
		if m, e := Open(w.m.Store); m != nil || e != api.ErrForm {
			t.Errorf("%s: Open = %v, %v", what, m, e)
		}
	}
	for n := range good {
		for _, x := range []byte{0, 1, 255, good[n] + 1} {
			spoilt := bytes.Clone(good)
			spoilt[n] = x
			w.m.Store.Apply(5, nil, api.Pair{Key: []byte(locksName), Value: spoilt})
			m, e := Open(w.m.Store)
			if e == api.OK {
				if !bytes.Equal(m.locksNote(), spoilt) {
					t.Fatalf("the locks %q are taken as %q", spoilt, m.locksNote())
				}
				asked(t, "other locks", m)
				w = begin(t, 1<<20, kinds[0])
				w.does(locking(a, excl("a", "b")))
			} else if m != nil || e != api.ErrForm {
				t.Fatalf("Open = %v, %v", m, e)
			}
		}
	}
}

func TestAnyArguments(t *testing.T) { // P1
	lists := [][]byte{nil, {}, {0}, []byte("a"), {255}, make([]byte, 400), make([]byte, 1025), make([]byte, 40000)}
	m, _ := Open(storeOn(t, disk.New(1<<24), lsm.Options{Mem: 100000, Block: 1000, Fan: 4}))
	index := uint64(0)
	for i, n := range []uint64{0, 1, 5, 1<<32 - 2, 1<<32 - 1, 1 << 62, 1<<62 + 1, math.MaxUint64} {
		for j, x := range lists {
			y := lists[(i+j)%len(lists)]
			for _, kind := range []int{math.MinInt, -1, 0, 1, 2, 3, 4, 256, math.MaxInt} {
				c := Cmd{Kind: kind, Txn: txn(n, uint64(j)), Ranges: []api.Range{{From: x, To: y}, {From: y, Excl: true}}, Commit: i%2 == 0, Ts: n, Writes: []api.Write{{Key: x, Value: y}, {Key: y, Value: x, Gone: j%2 == 0}}, Reply: x}
				index++
				m.Apply(index, Encode(c))
				m.Apply(n/3, Encode(c))
				c.Txn = txn(uint64(j), n)
				index++
				m.Apply(index, Encode(c))
			}
			m.Apply(index+1, x)
			index = max(index, m.Applied())
			Decode(x)
			m.Look(x, y, n)
			m.Look(y, x, m.Closed())
			m.Known(txn(n, uint64(j)))
			m.Record(txn(uint64(j), n))
			Restore(m.Store, x)
			m.Open()
			m.Clock()
		}
		if n <= 1<<62 {
			m.Tidy(n)
		}
		dumps(t, m)
	}
	m.Tidy(math.MaxUint64)
	m.Apply(math.MaxUint64, nil)
	m.Apply(math.MaxUint64, nil)
	other, _ := restores(t, dumps(t, m), kinds[0])
	if other.Applied() != math.MaxUint64 || !bytes.Equal(dumps(t, other), dumps(t, m)) {
		t.Errorf("restored it is another one")
	}
}

// roomy is a copy with spare room.
func roomy(b []byte) []byte { return append(slices.Clone(b), 0, 1, 2, 255)[:len(b)] }

// fill writes over a list, its spare room too.
func fill(b []byte) {
	b = b[:cap(b)]
	for i := range b {
		b[i] = 77
	}
}

// untouched looks whether bytes that were handed in are as they were, and writes over them.
func untouched(t *testing.T, what string, b, want []byte) {
	t.Helper()
	if !bytes.Equal(b[:len(b)+4], append(slices.Clone(want), 0, 1, 2, 255)) {
		t.Fatalf("%s has changed %q", what, want)
	}
	fill(b)
}

// roomyCmd is a command whose lists have spare room.
func roomyCmd(c Cmd) Cmd {
	out := Cmd{Kind: c.Kind, Txn: c.Txn, Commit: c.Commit, Ts: c.Ts, Reply: roomy(c.Reply)}
	for _, r := range c.Ranges {
		out.Ranges = append(out.Ranges, api.Range{From: roomy(r.From), To: roomy(r.To), Excl: r.Excl})
	}
	for _, w := range c.Writes {
		out.Writes = append(out.Writes, api.Write{Key: roomy(w.Key), Value: roomy(w.Value), Gone: w.Gone})
	}
	out.Ranges = append(out.Ranges, excl("spare", "room"))[:len(c.Ranges)]
	out.Writes = append(out.Writes, put("spare", "room"))[:len(c.Writes)]
	return out
}

// lists are all lists of bytes of a command.
func lists(c Cmd) [][]byte {
	out := [][]byte{c.Reply}
	for _, r := range c.Ranges {
		out = append(out, r.From, r.To)
	}
	for _, w := range c.Writes {
		out = append(out, w.Key, w.Value)
	}
	return out
}

func TestMemoryOfCommands(t *testing.T) { // P19.6
	for _, c := range oddCommands() {
		given := roomyCmd(c)
		one, two := Encode(given), Encode(given)
		for i, b := range lists(given) {
			untouched(t, "Encode", b, lists(c)[i])
		}
		if string(given.Ranges[:len(given.Ranges)+1][len(given.Ranges)].From) != "spare" || string(given.Writes[:len(given.Writes)+1][len(given.Writes)].Key) != "spare" {
			t.Fatalf("Encode has changed a list's spare room")
		}
		if fill(one); !bytes.Equal(two, Encode(c)) {
			t.Fatalf("two Encodes share memory")
		}
		b := roomy(two)
		x, _ := Decode(b)
		y, _ := Decode(b)
		untouched(t, "Decode", b, two)
		for i, list := range lists(x) {
			if !bytes.Equal(list, lists(comesBack(c))[i]) {
				t.Fatalf("two lists of a Decode share memory")
			}
			fill(list)
		}
		clear(x.Ranges[:cap(x.Ranges)])
		clear(x.Writes[:cap(x.Writes)])
		if !sameCmd(y, comesBack(c)) {
			t.Fatalf("two Decodes share memory")
		}
	}
}

// spoil writes over all that a result has, and looks whether two lists of it share memory.
func spoil(t *testing.T, r Result, want Result) {
	t.Helper()
	for i, p := range r.Pairs {
		if !bytes.Equal(p.Key, want.Pairs[i].Key) {
			t.Fatalf("two lists of a Result share memory")
		}
		fill(p.Key)
		if !bytes.Equal(p.Value, want.Pairs[i].Value) {
			t.Fatalf("two lists of a Result share memory")
		}
		fill(p.Value)
	}
	clear(r.Pairs[:cap(r.Pairs)])
	spoilRecord(t, r.Record, want.Record)
}

func spoilRecord(t *testing.T, r, want Record) {
	t.Helper()
	for i, w := range r.Writes {
		if !bytes.Equal(w.Key, want.Writes[i].Key) {
			t.Fatalf("two lists of a Record share memory")
		}
		fill(w.Key)
		if !bytes.Equal(w.Value, want.Writes[i].Value) {
			t.Fatalf("two lists of a Record share memory")
		}
		fill(w.Value)
	}
	if !bytes.Equal(r.Reply, want.Reply) {
		t.Fatalf("two lists of a Record share memory")
	}
	fill(r.Reply)
	clear(r.Writes[:cap(r.Writes)])
}

func TestMemoryOfMachines(t *testing.T) { // P19.6
	for _, o := range kinds {
		w := begin(t, 1<<22, o)
		r := rand.New(rand.NewPCG(6, 19))
		for i := range 150 {
			c := anyCmd(r, w.p)
			index := w.p.applied + 1
			data := Encode(c)
			given := roomy(data)
			got, e := w.m.Apply(index, given)
			untouched(t, "Apply", given, data)
			want := w.p.do(index, c)
			if e != api.OK || !sameResult(got, want) {
				t.Fatalf("Apply(%s) = %+v, %v; want %+v", told(c), got, e, want)
			}
			spoil(t, got, want)
			if i%5 > 0 {
				continue
			}
			for x, want := range w.p.records {
				one, _ := w.m.Record(x)
				spoilRecord(t, one, want)
			}
			from, to := roomy([]byte("a")), roomy([]byte("c"))
			one, _ := w.m.Look(from, to, w.m.Closed())
			untouched(t, "Look", from, []byte("a"))
			untouched(t, "Look", to, []byte("c"))
			spoil(t, Result{Pairs: one}, Result{Pairs: w.p.look("a", "c", w.p.closed())})
			all := w.m.Open()
			clear(all[:cap(all)])
			dump := dumps(t, w.m)
			given = roomy(dump)
			other, _ := restores(t, given, o)
			untouched(t, "Restore", given, dump)
			fill(dump)
			if i%15 == 0 && len(w.p.there[""]) == 0 {
				agrees(t, "restored", other, w.p)
			}
			w.agrees("written over")
		}
	}
}
