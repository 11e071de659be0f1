package raftlog

import (
	"bytes"
	"fmt"
	"math"
	"math/rand/v2"
	"slices"
	"strings"
	"testing"

	"caisson/api"
	"caisson/codec"
	"caisson/disk"
	"caisson/raft"
	"caisson/wal"
)

// e is an entry.
func e(term uint64, data string) raft.Entry { return raft.Entry{Term: term, Data: []byte(data)} }

// state is a state with a base.
func state(term uint64, vote int, base, baseTerm uint64, entries ...raft.Entry) raft.State {
	return raft.State{Hard: raft.Hard{Term: term, Vote: vote}, Base: base, BaseTerm: baseTerm, Entries: entries}
}

// empty is the state of who has saved none.
func empty() raft.State { return state(0, -1, 0, 0) }

func sameEntry(a, b raft.Entry) bool { return a.Term == b.Term && bytes.Equal(a.Data, b.Data) }

func sameState(a, b raft.State) bool {
	return a.Hard == b.Hard && a.Base == b.Base && a.BaseTerm == b.BaseTerm && slices.EqualFunc(a.Entries, b.Entries, sameEntry)
}

// kept is a state that shares nothing with another one.
func kept(s raft.State) raft.State {
	entries := s.Entries
	s.Entries = nil
	for _, x := range entries {
		s.Entries = append(s.Entries, e(x.Term, string(x.Data)))
	}
	return s
}

// at is the entry with an index.
func at(s raft.State, i uint64) (raft.Entry, bool) {
	if i <= s.Base || i-s.Base > uint64(len(s.Entries)) {
		return raft.Entry{}, false
	}
	return s.Entries[i-s.Base-1], true
}

// keeps: does a state keep what two others both have? By the words of the document.
func keeps(s, a, b raft.State) bool {
	lesser := min(a.Term, b.Term)
	if s.Term < lesser || s.Term == lesser && a.Hard == b.Hard && s.Vote != a.Vote || s.Base > max(a.Base, b.Base) {
		return false
	}
	for k := range a.Entries {
		i := a.Base + 1 + uint64(k)
		x, _ := at(a, i)
		if y, there := at(b, i); !there || !sameEntry(x, y) || i <= s.Base {
			continue
		}
		if z, there := at(s, i); !there || !sameEntry(x, z) {
			return false
		}
	}
	return true
}

// short is a state as a text for messages.
func short(s raft.State) string {
	out := fmt.Sprintf("{%d %d %d %d", s.Term, s.Vote, s.Base, s.BaseTerm)
	for _, x := range s.Entries {
		out += fmt.Sprintf(" %d:%.9q/%d", x.Term, x.Data, len(x.Data))
	}
	return out + "}"
}

// files are all files of a disk, with their bytes, and of each how many are safe.
func files(d *disk.Disk) map[string]string {
	twin := d.Twin()
	twin.Crash()
	out := map[string]string{}
	for _, name := range d.List("") {
		b, _ := d.Read(name)
		safe, _ := twin.Read(name)
		out[name] = fmt.Sprint(len(safe), " ", string(b))
	}
	return out
}

func sameFiles(a, b map[string]string) bool {
	if len(a) != len(b) {
		return false
	}
	for name, x := range a {
		if y, there := b[name]; !there || x != y {
			return false
		}
	}
	return true
}

// opens opens a log that must have this state, and must change nothing.
func opens(t *testing.T, d *disk.Disk, want raft.State) *Log {
	t.Helper()
	before := files(d)
	l, err := Open(d, "l.")
	if err != api.OK {
		t.Fatalf("Open = %v", err)
	}
	if !sameState(l.State, want) {
		t.Fatalf("opened it is %s; want %s", short(l.State), short(want))
	}
	if !sameFiles(files(d), before) {
		t.Fatalf("Open changes the disk")
	}
	return l
}

// answers looks what a call answered.
func answers(t *testing.T, call string, got, want api.Errno) {
	t.Helper()
	if got != want {
		t.Errorf("%s = %v; want %v", call, got, want)
	}
}

// saves saves a state, safely.
func saves(t *testing.T, l *Log, d *disk.Disk, s raft.State) {
	t.Helper()
	if err := l.Save(s); err != api.OK {
		t.Fatalf("Save(%s) = %v", short(s), err)
	}
	has(t, l, d, s)
}

// has looks whether a log has a state, and the disk, too, whatever stays of what isn't safe.
func has(t *testing.T, l *Log, d *disk.Disk, s raft.State) {
	t.Helper()
	if !sameState(l.State, s) {
		t.Fatalf("it is %s; want %s", short(l.State), short(s))
	}
	opens(t, d, s)
	for _, keep := range []int{0, 1, math.MaxInt} {
		twin := d.Twin()
		twin.Crash(keep)
		opens(t, twin, s)
	}
}

// logged is a disk with a log of these records.
func logged(t *testing.T, records ...[]byte) *disk.Disk {
	t.Helper()
	d := disk.New(1 << 24)
	w, _, _ := wal.Open(d, "l.", 1<<20)
	if _, err := w.Append(records...); err != api.OK {
		t.Fatal(err)
	}
	w.Sync()
	return d
}

func TestExamples(t *testing.T) { // P18.1
	d := disk.New(1000)
	l := opens(t, d, empty())
	if len(d.List("")) > 0 {
		t.Errorf("Open writes")
	}
	saves(t, l, d, state(1, 0, 0, 0, e(1, "a"), e(1, "b")))
	saves(t, l, d, state(1, 0, 0, 0, e(1, "a")))

	d = disk.New(1000)
	l = opens(t, d, empty())
	saves(t, l, d, state(1, 0, 0, 0, e(1, "a"), e(1, "b")))
	saves(t, l, d, state(1, 0, 2, 1))
	l = opens(t, d, state(1, 0, 2, 1))
	saves(t, l, d, state(3, -1, 2, 1, e(2, "c")))
}

// long is a text of so many bytes.
func long(n int) string { return strings.Repeat("x", n) }

// odd are states of all kinds, the base never falls: many of them aren't in form.
func odd() []raft.State {
	return []raft.State{
		state(0, 0, 0, 0), empty(), state(1, -1, 0, 0), state(1, 2, 0, 0), state(0, 4, 0, 0),
		state(1, 2, 0, 0, e(1, "a")), state(1, 2, 0, 0, e(1, "a"), e(1, "b"), e(2, "c")), state(1, 2, 0, 0, e(1, "a"), e(1, "B"), e(2, "c")), state(1, 2, 0, 0, e(1, "a"), e(3, "B"), e(2, "c")),
		state(2, 2, 0, 0, e(2, "c")), state(2, 2, 0, 0), state(2, 2, 0, 5, e(0, ""), e(0, ""), e(9, "")), state(2, 2, 0, 6, e(0, ""), e(0, "")), state(2, 2, 0, 6, e(0, ""), e(0, ""), e(0, "\x00")),
		state(2, 2, 1, 6, e(0, ""), e(0, "\x00")), state(2, 2, 2, 6, e(0, "\x00"), e(7, "x")), state(2, 2, 2, 6, e(7, "x")), state(2, 2, 3, 6, e(7, "x"), e(8, long(300))), state(9, 1, 4, 6, e(8, long(300)), e(8, long(300))),
		state(9, 1, 4, 6, e(8, long(299)), e(8, long(300))), state(9, 1, 6, 0), state(9, 1, 7, 1, e(1, "y")), state(9, 1, 8, 1, e(1, "y")), state(9, 1, 20, 1, e(1, "y")), state(9, 1, 20, 2, e(1, "y"), e(1, "y"), e(1, "y")),
		state(math.MaxUint64, math.MaxInt, 20, math.MaxUint64, e(math.MaxUint64, "z")), state(0, math.MinInt, 20, 0, e(math.MaxUint64, "z"), e(0, "z")), state(1, -2, 1<<63, 1, e(1, "a"), e(2, "b")), state(1, -2, 1<<63+1, 1, e(2, "b")),
		state(1, 1, math.MaxUint64-1, 1, e(1, "a"), e(2, "b"), e(3, "c")), state(1, 1, math.MaxUint64, 1, e(2, "b"), e(3, "c"), e(4, "d")), state(1, 1, math.MaxUint64, 2, e(2, "b")), state(1, 1, math.MaxUint64, 2),
	}
}

func TestSave(t *testing.T) { // P18.1
	for _, tidy := range []int{0, 1, 3} {
		for _, again := range []int{0, 1, 2} {
			d := disk.New(1 << 20)
			l := opens(t, d, empty())
			for i, s := range odd() {
				given := kept(s)
				saves(t, l, d, given)
				saves(t, l, d, given) // once more
				if again > 0 && i%again == 0 {
					l = opens(t, d, s)
				}
				if tidy > 0 && i%tidy == 0 {
					answers(t, "Tidy", l.Tidy(), api.OK)
					has(t, l, d, s)
				}
			}
		}
	}
}

func TestOthersOnTheDisk(t *testing.T) { // P18.1: logs, and what else lies there, are each for themselves
	d := disk.New(1 << 16)
	d.Append("l.m", []byte("other"))
	d.Append("k.0000000000000000", []byte("other"))
	d.Append("l.00000000000000000", []byte("other"))
	l := opens(t, d, empty())
	other, err := Open(d, "l.2")
	if err != api.OK {
		t.Fatal(err)
	}
	for i, s := range odd() {
		saves(t, l, d, s)
		answers(t, "Save", other.Save(state(uint64(i), 7, 0, 0)), api.OK)
		answers(t, "Tidy", other.Tidy(), api.OK)
	}
	answers(t, "Tidy", l.Tidy(), api.OK)
	has(t, l, d, odd()[len(odd())-1])
	if again, err := Open(d, "l.2"); err != api.OK || !sameState(again.State, other.State) || other.Vote != 7 {
		t.Errorf("the other one is %v, %v", again, err)
	}
	for _, name := range []string{"l.m", "k.0000000000000000", "l.00000000000000000"} {
		if b, err := d.Read(name); err != api.OK || string(b) != "other" {
			t.Errorf("%s: %q, %v", name, b, err)
		}
	}
}

func TestErrors(t *testing.T) { // P18.1
	d := disk.New(1 << 22)
	l := opens(t, d, empty())
	first := state(2, 1, 5, 1, e(1, "a"), e(2, "b"))
	saves(t, l, d, first)
	most, more := e(2, long(MaxData)), e(2, long(MaxData+1))
	before := files(d)
	for _, c := range []struct {
		s    raft.State
		want api.Errno
	}{
		{state(2, 1, 4, 1, e(1, "a")), api.ErrArg}, {empty(), api.ErrArg}, {state(9, 1, 0, 0, more), api.ErrArg}, {state(9, 1, 4, 0, e(2, "x"), more), api.ErrArg},
		{state(2, 1, 5, 1, more), api.ErrSize}, {state(2, 1, 5, 1, e(1, "a"), e(2, "b"), more), api.ErrSize}, {state(2, 1, 9, 1, more, e(2, "b")), api.ErrSize}, {state(2, 1, math.MaxUint64, 1, e(2, "b"), e(1, long(1<<20))), api.ErrSize},
	} {
		answers(t, "Save "+short(c.s), l.Save(c.s), c.want)
		has(t, l, d, first)
		if !sameFiles(files(d), before) {
			t.Errorf("Save(%s) changes the disk", short(c.s))
		}
	}
	d.Arm(0)
	answers(t, "Save of nothing new", l.Save(first), api.OK) // nothing is written
	answers(t, "Save of a lower base", l.Save(empty()), api.ErrArg)
	answers(t, "Save of too much", l.Save(state(2, 1, 5, 1, more)), api.ErrSize)
	answers(t, "Save", l.Save(state(3, 1, 5, 1, e(1, "a"), e(2, "b"))), api.ErrDead)
	answers(t, "Save of a lower base", l.Save(empty()), api.ErrArg)
	answers(t, "Save of too much", l.Save(state(2, 1, 5, 1, more)), api.ErrSize)
	answers(t, "Save of nothing new", l.Save(first), api.ErrDead)
	answers(t, "Save", l.Save(state(3, 1, 5, 1, e(1, "a"), e(2, "b"))), api.ErrDead)
	answers(t, "Tidy", l.Tidy(), api.ErrDead)
	if got, err := Open(d, "l."); got != nil || err != api.ErrDead {
		t.Errorf("Open of a dead disk = %v, %v", got, err)
	}
	d.Crash()
	l = opens(t, d, first)
	saves(t, l, d, state(2, 1, 5, 1, e(1, "a"), e(2, "b"), most, most))
}

func TestManyLongEntries(t *testing.T) { // P18.1: more than go into a record, and into a segment
	d := disk.New(1 << 24)
	l := opens(t, d, empty())
	var list []raft.Entry
	for i := range 5 {
		list = append(list, e(uint64(i), fmt.Sprint(i)+long(MaxData-1)))
	}
	saves(t, l, d, state(9, 0, 0, 0, list...))
	saves(t, l, d, state(9, 0, 0, 0, append(slices.Clone(list), list...)...))
	saves(t, l, d, state(9, 0, 3, 0, append(slices.Clone(list[3:]), list[1:]...)...))
	before := files(d)
	answers(t, "Tidy", l.Tidy(), api.OK) // of more than MaxData bytes nothing is done
	if !sameFiles(files(d), before) {
		t.Errorf("Tidy changes the disk")
	}
	has(t, l, d, state(9, 0, 3, 0, append(slices.Clone(list[3:]), list[1:]...)...))
	if n := len(d.List("l.")); n < 3 {
		t.Errorf("there are %d segments alone", n)
	}
	s := state(9, 0, 8, 0, e(1, long(MaxData-1)), e(1, "yz"))
	saves(t, l, d, s)
	answers(t, "Tidy", l.Tidy(), api.OK)
	if n := d.Used(); n < 3*MaxData {
		t.Errorf("%d bytes are left", n)
	}
	s.Entries[1] = e(1, "y") // just MaxData bytes
	saves(t, l, d, s)
	answers(t, "Tidy", l.Tidy(), api.OK)
	has(t, l, d, s)
	if n := d.Used(); n > MaxData+100 || len(d.List("l.")) != 1 {
		t.Errorf("%d bytes are left", n)
	}
	var many []raft.Entry
	for i := range 3000 {
		many = append(many, e(uint64(i), ""))
	}
	saves(t, l, d, state(9, 0, 8, 0, many...))
	answers(t, "Tidy", l.Tidy(), api.OK)
	has(t, l, d, state(9, 0, 8, 0, many...))
}

func TestTidy(t *testing.T) { // P18.1
	d := disk.New(1 << 20)
	l := opens(t, d, empty())
	answers(t, "Tidy of nothing", l.Tidy(), api.OK)
	has(t, l, d, empty())
	s := state(0, -1, 0, 0)
	for round := range 4 {
		for i := range 300 {
			s.Term++
			s.Entries = append(s.Entries, e(s.Term, fmt.Sprint(i)))
			if i%10 == 0 {
				s.Base, s.BaseTerm, s.Entries = s.Base+9, s.Term, s.Entries[min(9, len(s.Entries)-1):]
			}
			answers(t, "Save", l.Save(s), api.OK)
		}
		long := d.Used()
		answers(t, "Tidy", l.Tidy(), api.OK)
		has(t, l, d, s)
		if d.Used() > 20*len(s.Entries)+100 || long < 3*d.Used() {
			t.Errorf("Tidy leaves %d bytes of %d", d.Used(), long)
		}
		before := files(d)
		answers(t, "Tidy once more", l.Tidy(), api.OK)
		if round > 1 {
			l = opens(t, d, s)
			answers(t, "Tidy once more", l.Tidy(), api.OK)
		}
		if !sameFiles(files(d), before) {
			t.Errorf("Tidy changes what is short already")
		}
	}
	// what is gone goes: of an entry that had another one's place, of a term that was
	d = disk.New(1 << 20)
	l = opens(t, d, empty())
	for i := range 100 {
		saves(t, l, d, state(5, 1, 0, 0, e(1, fmt.Sprint("entry", i))))
	}
	answers(t, "Tidy", l.Tidy(), api.OK)
	has(t, l, d, state(5, 1, 0, 0, e(1, "entry99")))
	if d.Used() > 60 {
		t.Errorf("Tidy leaves %d bytes", d.Used())
	}
	saves(t, l, d, state(6, 1, 0, 0, e(1, "entry99")))
	answers(t, "Tidy", l.Tidy(), api.OK)
	if d.Used() > 60 {
		t.Errorf("Tidy leaves %d bytes", d.Used())
	}
	saves(t, l, d, state(6, 1, 1, 1))
	answers(t, "Tidy", l.Tidy(), api.OK)
	if d.Used() > 30 {
		t.Errorf("Tidy leaves %d bytes", d.Used())
	}
	has(t, l, d, state(6, 1, 1, 1))
}

func TestEither(t *testing.T) { // P18.1: of two Logs of the same either may be used
	for _, second := range []bool{false, true} {
		d := disk.New(1 << 20)
		l := opens(t, d, empty())
		for i, s := range odd() {
			other := opens(t, d, l.State)
			if second {
				l = other
			}
			saves(t, l, d, s)
			other = opens(t, d, s)
			if second {
				l = other
			}
			if i%3 == 0 {
				answers(t, "Tidy", l.Tidy(), api.OK)
			}
			has(t, l, d, s)
		}
	}
	// also behind a Save that found no room, and a Tidy that did
	d := disk.New(120)
	l := opens(t, d, empty())
	s := state(1, -1, 0, 0, e(1, long(60)))
	saves(t, l, d, s)
	answers(t, "Save", l.Save(state(1, -1, 0, 0, e(1, long(70)))), api.ErrFull)
	saves(t, l, d, state(2, -1, 0, 0, e(1, long(60))))
	answers(t, "Tidy", l.Tidy(), api.ErrFull)
	twin := d.Twin()
	saves(t, l, d, state(2, -1, 1, 1))
	l = opens(t, twin, state(2, -1, 0, 0, e(1, long(60))))
	saves(t, l, twin, state(2, -1, 1, 1))
}

// u are numbers as bytes.
func u(nums ...uint64) []byte {
	var out []byte
	for _, n := range nums {
		out = append(out, codec.PutU(n)...)
	}
	return out
}

// kind is a record of a kind.
func kind(k byte, b ...[]byte) []byte { return slices.Concat(append([][]byte{{k}}, b...)...) }

func TestRecords(t *testing.T) { // P18.1: what a log's records are
	one, two := kind(anEntry, u(300), []byte("one")), kind(anEntry, u(1))
	for _, c := range []struct {
		records [][]byte
		want    raft.State
	}{
		{[][]byte{kind(theRest, u(3, 4, 5, 6, 0, 0))}, state(3, 2, 5, 6)},
		{[][]byte{kind(theRest, u(3, 1, 5, 6, 0, 0))}, state(3, -1, 5, 6)},
		{[][]byte{one, two, kind(theRest, u(3, 3, 0, 6, 0, 2))}, state(3, -2, 0, 6, e(300, "one"), e(1, ""))},
		{[][]byte{one, two, kind(theRest, u(3, 3, 0, 6, 0, 1))}, state(3, -2, 0, 6, e(1, ""))}, // one was of a Save in which the disk died
		{[][]byte{one, two, kind(theRest, u(3, 3, 0, 6, 0, 0))}, state(3, -2, 0, 6)},
		{[][]byte{one, kind(theRest, u(3, 3, 0, 6, 0, 1)), two, kind(theRest, u(3, 3, 0, 6, 1, 1))}, state(3, -2, 0, 6, e(300, "one"), e(1, ""))},
		{[][]byte{one, two, kind(theRest, u(3, 3, 0, 6, 0, 2)), two, kind(theRest, u(3, 3, 1, 6, 1, 1)), one}, state(3, -2, 1, 6, e(1, ""), e(1, ""))},
		{[][]byte{one, two, kind(theRest, u(3, 3, 0, 6, 0, 2)), kind(theRest, u(3, 3, 5, 6, 0, 0))}, state(3, -2, 5, 6)},
		{[][]byte{one}, empty()},
		{[][]byte{kind(anEntry, u(1), make([]byte, MaxData)), kind(theRest, u(0, 0, 0, 0, 0, 0))}, state(0, 0, 0, 0)},
		{[][]byte{kind(theRest, u(math.MaxUint64, math.MaxUint64, math.MaxUint64, math.MaxUint64, 0, 0))}, state(math.MaxUint64, math.MinInt, math.MaxUint64, math.MaxUint64)},
	} {
		d := logged(t, c.records...)
		l := opens(t, d, c.want)
		next := c.want
		next.Vote++
		next.Entries = append(slices.Clone(next.Entries), e(5, "next"))
		saves(t, l, d, next)
		answers(t, "Tidy", l.Tidy(), api.OK)
		has(t, l, d, next)
	}
}

func TestWrongRecords(t *testing.T) { // P18.1: records that aren't such a log's
	one, good := kind(anEntry, u(300), []byte("one")), kind(theRest, u(3, 3, 2, 6, 0, 1))
	for _, c := range [][][]byte{
		{nil}, {[]byte("x")}, {[]byte("garbage")}, {{0}}, {{255}}, {{anEntry - 1, 1, 1}}, {{theRest + 1, 0, 0, 0, 0, 0, 0}}, {make([]byte, 1000)},
		{{anEntry}}, {{anEntry, 128}}, {{anEntry, 128, 0}}, {{anEntry, 255, 255, 255, 255, 255, 255, 255, 255, 255, 2}}, {kind(anEntry, u(1), make([]byte, MaxData+1))},
		{{theRest}}, {kind(theRest, u(0, 0, 0, 0, 0))}, {kind(theRest, u(0, 0, 0, 0, 0, 0, 0))}, {kind(theRest, u(0, 0, 0, 0, 0, 0), []byte{128})}, {kind(theRest, u(0, 0, 0, 0), []byte{128, 0}, u(0))},
		{kind(theRest, u(0, 0, 0, 0, 0, 1))}, {kind(theRest, u(0, 0, 0, 0, 1, 0))}, {one, kind(theRest, u(0, 0, 0, 0, 0, 2))}, {one, kind(theRest, u(0, 0, 0, 0, 1, 1))}, {one, kind(theRest, u(0, 0, 0, 0, 0, math.MaxUint64))}, {one, kind(theRest, u(0, 0, 0, 0, math.MaxUint64, 1))}, {one, kind(theRest, u(0, 0, 0, 0, 1<<63, 1))},
		{one, good, kind(theRest, u(3, 3, 1, 6, 0, 0))}, {one, good, kind(theRest, u(3, 3, 2, 6, 2, 0))}, {one, good, kind(theRest, u(3, 3, 3, 6, 1, 0))}, {one, good, kind(theRest, u(3, 3, 99, 6, 1, 0))}, {one, good, kind(theRest, u(3, 3, 2, 6, 1, 1))},
	} {
		for _, records := range [][][]byte{c, append([][]byte{one, good}, c...), append(slices.Clone(c), kind(theRest, u(9, 9, 9, 9, 0, 0)))} {
			d := logged(t, records...)
			before := files(d)
			if l, err := Open(d, "l."); l != nil || err != api.ErrForm {
				t.Errorf("Open of %q = %v, %v", records, l, err)
			}
			if !sameFiles(files(d), before) {
				t.Errorf("Open of %q changes the disk", records)
			}
		}
	}
}

func TestMissingBeginning(t *testing.T) { // P18.1
	d := disk.New(1 << 20)
	l := opens(t, d, empty())
	saves(t, l, d, state(1, 0, 0, 0, e(1, "a")))
	saves(t, l, d, state(2, 0, 0, 0, e(1, "a"), e(2, "b")))
	answers(t, "Tidy", l.Tidy(), api.OK)
	saves(t, l, d, state(3, 0, 0, 0, e(1, "a"), e(2, "b"), e(3, "c")))
	names := d.List("l.")
	if len(names) != 1 || names[0] == "l.0000000000000000" {
		t.Fatalf("there are the files %q", names)
	}
	b, _ := d.Read(names[0])
	whole := len(b) - 11 - 15  // without what stands behind the Tidy's state: an entry, and the rest
	for size := range len(b) { // of a log that once was made short too little is left
		twin := d.Twin()
		twin.Cut(names[0], size)
		l, err := Open(twin, "l.")
		switch {
		case err == api.OK && sameState(l.State, state(2, 0, 0, 0, e(1, "a"), e(2, "b"))) && size >= whole:
		case err == api.ErrForm && l == nil && size < whole:
		default:
			t.Errorf("cut to %d of %d: %v, %v", size, len(b), l, err)
		}
	}
	for i := range b { // spoilt: what is ahead of it at most
		twin := d.Twin()
		twin.Cut(names[0], i)
		twin.Append(names[0], []byte{b[i] ^ 1})
		twin.Append(names[0], b[i+1:])
		l, err := Open(twin, "l.")
		if err == api.OK && !sameState(l.State, state(2, 0, 0, 0, e(1, "a"), e(2, "b"))) || err != api.OK && err != api.ErrForm {
			t.Errorf("spoilt at %d of %d: %v, %v", i, len(b), l, err)
		}
	}
}

func TestFullDisk(t *testing.T) { // P18.3
	for room := range 300 {
		d := disk.New(room)
		l := opens(t, d, empty())
		last, refused := empty(), 0
		for i, s := range odd() {
			if len(s.Entries) > 0 && len(s.Entries[0].Data) > 200 || s.Base < last.Base {
				continue
			}
			before := files(d)
			switch err := l.Save(s); err {
			case api.OK:
				last = s
			case api.ErrFull:
				refused++
				if !sameFiles(files(d), before) && d.Used() > room-10 {
					t.Fatalf("a Save without room changes the disk")
				}
			default:
				t.Fatalf("Save = %v", err)
			}
			has(t, l, d, last)
			if i%4 == 3 {
				before, used := files(d), d.Used()
				switch err := l.Tidy(); {
				case err == api.OK && d.Used() <= used:
				case err == api.ErrFull:
					if len(files(d)) != len(before) || d.Used() != used {
						t.Fatalf("a Tidy without room changes the disk")
					}
				default:
					t.Fatalf("Tidy = %v", err)
				}
				has(t, l, d, last)
			}
		}
		if room < 100 && refused == 0 || room == 0 && !sameState(last, empty()) {
			t.Errorf("with room for %d there is no end", room)
		}
	}
}

// story: states that are saved, and where there is none, a Tidy.
func story() []*raft.State {
	var out []*raft.State
	for i, s := range odd() {
		out = append(out, &s)
		if i%5 == 4 {
			out = append(out, nil)
		}
	}
	return append(out, nil)
}

// tell tells a story, up to where the disk dies: what was saved then, and what was on its way.
func tell(t *testing.T, l *Log, calls []*raft.State) (sure, perhaps raft.State, rest []*raft.State) {
	t.Helper()
	sure = l.State
	for i, s := range calls {
		err, next := api.OK, sure
		if s == nil {
			err = l.Tidy()
		} else {
			next = *s
			err = l.Save(next)
		}
		switch err {
		case api.OK:
			sure = next
		case api.ErrDead:
			if !sameState(l.State, sure) {
				t.Fatalf("behind ErrDead it is %s; want %s", short(l.State), short(sure))
			}
			return sure, next, calls[i+1:]
		default:
			t.Fatalf("Save or Tidy = %v", err)
		}
		if !sameState(l.State, sure) {
			t.Fatalf("it is %s; want %s", short(l.State), short(sure))
		}
	}
	return sure, sure, nil
}

// reopens opens a log behind a crash.
func reopens(t *testing.T, d *disk.Disk, sure, perhaps raft.State) *Log {
	t.Helper()
	l, err := Open(d, "l.")
	if err != api.OK {
		t.Fatalf("Open behind a crash = %v", err)
	}
	if !keeps(l.State, sure, perhaps) {
		t.Fatalf("behind a crash it is %s, which doesn't keep what both have of %s and %s", short(l.State), short(sure), short(perhaps))
	}
	if !sameState(l.State, sure) && !sameState(l.State, perhaps) {
		t.Fatalf("behind a crash it is %s; want %s or %s", short(l.State), short(sure), short(perhaps))
	}
	return l
}

func TestEachDeath(t *testing.T) { // P18.2
	calls := story()
	for n := 0; ; n++ {
		d := disk.New(1 << 20)
		l := opens(t, d, empty())
		d.Arm(n)
		sure, perhaps, rest := tell(t, l, calls)
		if !d.Dead() {
			if n < 2*len(odd()) {
				t.Errorf("it was written %d times alone", n)
			}
			return
		}
		twin := d.Twin()
		twin.Crash(math.MaxInt)
		size := 0
		for _, name := range twin.List("") {
			b, _ := twin.Read(name)
			size = max(size, len(b))
		}
		for keep := range size + 2 {
			twin := d.Twin()
			twin.Crash(keep)
			l := reopens(t, twin, sure, perhaps)
			opens(t, twin, l.State) // and once more
			if keep%7 > 0 {
				continue
			}
			end, _, _ := tell(t, l, rest)
			has(t, l, twin, end)
		}
	}
}

func TestDeathsOfOpen(t *testing.T) { // P18.2: a torn end is cut off, and the disk may die then, too
	for size := range 60 {
		d := disk.New(1 << 20)
		l := opens(t, d, empty())
		first, second := state(1, 0, 0, 0, e(1, "a"), e(1, "b")), state(2, 0, 0, 0, e(1, "a"), e(2, "c"), e(2, "d"))
		saves(t, l, d, first)
		d.Arm(1)
		answers(t, "Save", l.Save(second), api.ErrDead)
		d.Crash(size)
		twin := d.Twin()
		twin.Arm(0)
		if l, err := Open(twin, "l."); err == api.ErrDead {
			if l != nil {
				t.Errorf("beside ErrDead Open = %v", l)
			}
			twin.Crash(size)
		} else {
			twin.Arm(-1)
		}
		reopens(t, twin, first, second)
		l = reopens(t, d, first, second)
		saves(t, l, d, state(3, 0, 0, 0, e(1, "a"), e(3, "x")))
	}
}

func TestDyingDrop(t *testing.T) { // P18.2: of what is ahead of a Tidy's state some is dropped
	long := e(1, long(MaxData))
	calls := []*raft.State{}
	for i := range 12 { // several segments
		s := state(1, 0, uint64(i), 1, long, e(1, fmt.Sprint(i)))
		calls = append(calls, &s)
	}
	last := state(2, 0, 12, 1, e(1, "11"), e(2, "end"))
	calls = append(calls, &last, nil)
	seen := map[int]int{}
	for n := 0; ; n++ {
		d := disk.New(1 << 24)
		l := opens(t, d, empty())
		tell(t, l, calls[:len(calls)-1])
		d.Arm(n)
		err := l.Tidy()
		if err == api.OK {
			break
		}
		answers(t, "Tidy", err, api.ErrDead)
		d.Crash(n)
		seen[len(d.List("l."))]++
		l = reopens(t, d, last, last)
		saves(t, l, d, state(3, 0, 12, 1, e(1, "11"), e(2, "end"), e(3, "more")))
		answers(t, "Tidy", l.Tidy(), api.OK)
		has(t, l, d, state(3, 0, 12, 1, e(1, "11"), e(2, "end"), e(3, "more")))
		if d.Used() > 100 {
			t.Errorf("%d bytes are left", d.Used())
		}
	}
	if len(seen) < 4 {
		t.Errorf("it died with so many segments: %v", seen)
	}
}

// source gives numbers out of a script; 0 when it ends.
type source struct{ script []byte }

func (s *source) below(n int) int {
	if len(s.script) == 0 {
		return 0
	}
	b := s.script[0]
	s.script = s.script[1:]
	return int(b) % n
}

// next is a state that may come behind another one.
func (s *source) next(from raft.State) raft.State {
	out := kept(from)
	for range 1 + s.below(3) {
		switch s.below(7) {
		case 0:
			out.Term, out.Vote = out.Term+uint64(s.below(2)), s.below(4)-1
		case 1, 2:
			for range s.below(4) {
				out.Entries = append(out.Entries, e(out.Term, long(s.below(40))))
			}
		case 3:
			out.Entries = out.Entries[:len(out.Entries)-min(len(out.Entries), s.below(5))]
		case 4:
			n := s.below(6)
			out.Base, out.BaseTerm, out.Entries = out.Base+uint64(n), uint64(s.below(3)), out.Entries[min(n, len(out.Entries)):]
		case 5:
			if len(out.Entries) > 0 {
				out.Entries[s.below(len(out.Entries))] = e(uint64(s.below(9)), long(s.below(20)))
			}
		case 6:
			out.Base += uint64(s.below(3))
		}
	}
	return out
}

// play plays a script against what was saved.
func play(t *testing.T, room int, script []byte) {
	s := &source{script}
	d := disk.New(room)
	l := opens(t, d, empty())
	sure := empty()
	crash := func(perhaps raft.State) {
		d.Crash(s.below(256), s.below(256))
		l = reopens(t, d, sure, perhaps)
		sure = l.State
	}
	for len(s.script) > 0 {
		perhaps, err := sure, api.OK
		switch op := s.below(12); {
		case op < 7:
			perhaps = s.next(sure)
			err = l.Save(perhaps)
		case op < 9:
			err = l.Tidy()
		case op == 9:
			l = opens(t, d, sure)
		case op == 10:
			crash(sure)
			perhaps = sure
		case op == 11:
			d.Arm(s.below(12) - 1)
		}
		switch err {
		case api.OK:
			sure = perhaps
		case api.ErrDead:
			crash(perhaps)
		case api.ErrFull:
			if room > 1<<20 {
				t.Fatalf("no room?")
			}
		default:
			t.Fatalf("%v", err)
		}
		if !sameState(l.State, sure) {
			t.Fatalf("it is %s; want %s", short(l.State), short(sure))
		}
	}
	if d.Dead() {
		crash(sure)
	}
	d.Arm(-1)
	has(t, l, d, sure)
}

func TestAnyCalls(t *testing.T) { // P18.1, P18.2, P18.3
	r := rand.New(rand.NewPCG(18, 1))
	for i := range 2000 {
		script := make([]byte, 10+r.IntN(600))
		for k := range script {
			script[k] = byte(r.Uint32())
		}
		play(t, []int{200, 500, 1500, 1 << 24}[i%4], script)
	}
}

func FuzzPlay(f *testing.F) { // P1, P18.1, P18.2, P18.3
	f.Add(uint16(300), []byte{1, 2, 3, 4, 5, 6, 7, 8, 9, 10, 11, 12})
	f.Fuzz(func(t *testing.T, room uint16, script []byte) { play(t, int(room), script) })
}

// FuzzRecords: whatever the records are, they are refused, or come to a state that is there again.
func FuzzRecords(f *testing.F) { // P1, P18.1
	f.Add(kind(anEntry, u(1), []byte("a")), kind(theRest, u(1, 2, 3, 4, 0, 1)), kind(theRest, u(1, 2, 3, 4, 1, 0)))
	f.Fuzz(func(t *testing.T, a, b, c []byte) {
		d := logged(t, a, b, c)
		l, err := Open(d, "l.")
		if err == api.ErrForm && l == nil {
			return
		}
		if err != api.OK {
			t.Fatalf("Open = %v", err)
		}
		s := kept(l.State)
		has(t, l, d, s)
		answers(t, "Tidy", l.Tidy(), api.OK)
		has(t, l, d, s)
		s.Entries = append(s.Entries, e(1, "next"))
		saves(t, l, d, s)
	})
}

func TestWithNodes(t *testing.T) { // P18.1: states of a node that goes on
	d := disk.New(1 << 22)
	l := opens(t, d, empty())
	r, _ := raft.New(1, 3, 2, l.State)
	rnd := rand.New(rand.NewPCG(18, 2))
	for i := range 2000 {
		m := raft.Msg{Kind: raft.Append, From: rnd.IntN(3), To: 1, Term: r.Term + uint64(rnd.IntN(20)/19), Index: r.Last() - min(uint64(rnd.IntN(4)), r.Last()-r.Base), Commit: r.Last()}
		m.LogTerm, _ = r.TermAt(m.Index)
		for range rnd.IntN(4) {
			m.Entries = append(m.Entries, e(m.Term, fmt.Sprint(i)))
		}
		switch rnd.IntN(20) {
		case 0:
			m.Kind, m.Index, m.LogTerm = raft.Snap, r.Last()+uint64(rnd.IntN(3)), m.Term
		case 1:
			m.Kind, m.Term = raft.Vote, m.Term+1
		case 2:
			r.Compact(r.Commit())
		}
		r.Step(m)
		before := kept(r.State)
		if err := l.Save(r.State); err != api.OK {
			t.Fatalf("Save = %v", err)
		}
		if !sameState(l.State, before) {
			t.Fatalf("it is %s; want %s", short(l.State), short(before))
		}
		if i%10 == 0 {
			answers(t, "Tidy", l.Tidy(), api.OK)
			l = opens(t, d, before)
			r, _ = raft.New(1, 3, 2, l.State)
		}
	}
}

// roomy is a list with spare room that isn't empty.
func roomy(b []byte) []byte { return append(slices.Clone(b), 0, 1, 2, 255)[:len(b)] }

// roomyEntries are entries with spare room, in each one's data, too.
func roomyEntries(list []raft.Entry) []raft.Entry {
	var out []raft.Entry
	for _, x := range list {
		out = append(out, raft.Entry{Term: x.Term, Data: roomy(x.Data)})
	}
	return append(out, e(99, "spare"), e(98, "room"))[:len(list)]
}

// intact: is all of it, spare room too, as roomyEntries made it?
func intact(got, want []raft.Entry) bool {
	for i, x := range got {
		if data := append(slices.Clone(want[i].Data), 0, 1, 2, 255); x.Term != want[i].Term || !bytes.Equal(x.Data[:len(data)], data) {
			return false
		}
	}
	return slices.EqualFunc(got[:len(got)+2], append(slices.Clone(want), e(99, "spare"), e(98, "room")), sameEntry)
}

// spoil spoils entries, spare room too.
func spoil(list []raft.Entry) {
	list = list[:cap(list)]
	for i := range list {
		data := list[i].Data[:cap(list[i].Data)]
		for k := range data {
			data[k] = 0xEE
		}
		list[i] = e(77, "spoilt")
	}
}

func TestMemoryOfArguments(t *testing.T) { // P18.4
	d := disk.New(1 << 20)
	l := opens(t, d, empty())
	for i, s := range odd() {
		given := s
		given.Entries = roomyEntries(s.Entries)
		saves(t, l, d, given)
		answers(t, "Save once more", l.Save(given), api.OK)
		if i%3 == 0 {
			answers(t, "Tidy", l.Tidy(), api.OK)
		}
		if !intact(given.Entries, s.Entries) {
			t.Errorf("Save: the entries became %v", given.Entries)
		}
		spoil(given.Entries)
		has(t, l, d, s)
	}
}

func TestMemoryOfLogs(t *testing.T) { // P18.4: who has a State of a log has it for good, and Logs share nothing
	d := disk.New(1 << 20)
	l := opens(t, d, empty())
	var had, copies []raft.State
	all := odd()
	for n := range 40 {
		s := all[len(all)-1]
		for range n {
			s.Entries = append(slices.Clone(s.Entries), e(uint64(n), ""))
		}
		all = append(all, s)
	}
	for i, s := range all {
		saves(t, l, d, s)
		if i%3 == 0 {
			l = opens(t, d, s)
		}
		if i%4 == 0 {
			answers(t, "Tidy", l.Tidy(), api.OK)
		}
		if cap(l.Entries) > len(l.Entries) {
			t.Errorf("behind Save(%s) others could write where each of them does", short(s))
		}
		had, copies = append(had, l.State), append(copies, kept(l.State))
		for k := range had {
			if !sameState(had[k], copies[k]) {
				t.Fatalf("the State %s became %s", short(copies[k]), short(had[k]))
			}
		}
		other := opens(t, d, s)
		spoil(other.Entries)
		has(t, l, d, s)
	}
}

func TestAnyArguments(t *testing.T) { // P1
	for _, prefix := range []string{"", "l.", "\x00", "\xff\xfe", long(1000), "0000000000000000"} {
		d := disk.New(10000)
		for _, s := range odd() {
			l, err := Open(d, prefix)
			if err != api.OK {
				t.Fatalf("Open = %v", err)
			}
			answers(t, "Save", l.Save(s), api.OK)
			answers(t, "Tidy", l.Tidy(), api.OK)
			if l, err = Open(d, prefix); err != api.OK || !sameState(l.State, s) {
				t.Fatalf("%q: Open = %v, %v", prefix, l, err)
			}
		}
	}
	var none disk.Disk
	l, err := Open(&none, "")
	if err != api.OK {
		t.Fatalf("Open = %v", err)
	}
	answers(t, "Save", l.Save(state(1, 0, 0, 0)), api.ErrFull)
	answers(t, "Save", l.Save(empty()), api.OK)
	answers(t, "Tidy", l.Tidy(), api.OK)
}
