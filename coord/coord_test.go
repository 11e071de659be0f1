package coord

import (
	"fmt"
	"strings"
	"testing"

	"caisson/api"
	"caisson/catalog"
	"caisson/lock"
	"caisson/plan"
	"caisson/row"
	"caisson/shard"
)

func num(n int64) api.Cell   { return api.Cell{Kind: api.Int, Int: n} }
func text(s string) api.Cell { return api.Cell{Kind: api.Text, Text: s} }

func create(t api.Table) plan.Op              { return plan.Op{Kind: plan.Create, Def: t} }
func put(table string, c ...api.Cell) plan.Op { return plan.Op{Kind: plan.Put, Table: table, Cells: c} }
func get(table string, c ...api.Cell) plan.Op { return plan.Op{Kind: plan.Get, Table: table, Cells: c} }
func list(table string, most int) plan.Op     { return plan.Op{Kind: plan.List, Table: table, Most: most} }
func txn(session, seq uint64) api.Txn         { return api.Txn{Session: session, Seq: seq} }
func key(from string, excl bool) api.Range    { return between(from, from+"\x00", excl) }
func failed(e api.Errno, at int) []byte       { return plan.Reply{Err: e, At: at}.Bytes() }
func granted(ts uint64, p ...api.Pair) result { return result{Status: lock.Granted, Ts: ts, Pairs: p} }
func pair(key, value string) api.Pair         { return api.Pair{Key: []byte(key), Value: []byte(value)} }
func write(key, value string) api.Write       { return api.Write{Key: []byte(key), Value: []byte(value)} }
func gone(key string) api.Write               { return api.Write{Key: []byte(key), Gone: true} }
func decision(r shard.Record) result          { return result{Record: r} }

type result = shard.Result

var (
	waiting = result{Status: lock.Waiting}
	refused = result{Status: lock.Refused}
)

// people is a table whose index is unique.
func people() api.Table {
	return api.Table{Id: 7, Name: "t", Cols: []api.Col{{Name: "id", Kind: api.Int}, {Name: "name", Kind: api.Text, Null: true}}, Keys: 1, Indexes: []api.Index{{Name: "u", Cols: []int{1}, Unique: true}}}
}

// entry is the entry of the table.
func entry() api.Pair {
	e, _ := catalog.New(people())
	return api.Pair{Key: catalog.Key("t"), Value: catalog.Encode(e)}
}

// stored are the pairs of a row: the row itself, and its entry.
func stored(id int64, name string) (itself, inIndex api.Pair) {
	list, _ := row.Entries(people(), id, name)
	for _, p := range list {
		if p.Key[0] == 'r' {
			itself = p
		} else {
			inIndex = p
		}
	}
	return itself, inIndex
}

// told is what is to be sent, in words: all fields that aren't zero.
func told(list []Send) string {
	var out []string
	for _, s := range list {
		said := fmt.Sprintf("%d: to %d, kind %d of %d %d", s.Round, s.Shard, s.Kind, s.Txn.Session, s.Txn.Seq)
		for _, r := range s.Ranges {
			said += " " + toldRange(r)
		}
		if s.Commit {
			said += " commit"
		}
		if s.Ts > 0 {
			said += fmt.Sprint(" at ", s.Ts)
		}
		for _, w := range s.Writes {
			said += fmt.Sprintf(" %q=%q", w.Key, w.Value)
			if w.Gone {
				said += " gone"
			}
		}
		if len(s.Reply) > 0 {
			said += fmt.Sprintf(" reply %q", s.Reply)
		}
		out = append(out, said)
	}
	return strings.Join(out, "\n")
}

// locks, decides and finishes are what is sent.
func locks(round, to int, x api.Txn, ranges ...api.Range) Send {
	return Send{Cmd: shard.Cmd{Kind: shard.Lock, Txn: x, Ranges: ranges}, Shard: to, Round: round}
}

func decides(round, to int, x api.Txn, ts uint64, reply []byte, writes ...api.Write) Send {
	return Send{Cmd: shard.Cmd{Kind: shard.Decide, Txn: x, Commit: ts > 0, Ts: ts, Writes: writes, Reply: reply}, Shard: to, Round: round}
}

func finishes(round, to int, x api.Txn, ts uint64, writes ...api.Write) Send {
	return Send{Cmd: shard.Cmd{Kind: shard.Finish, Txn: x, Commit: ts > 0, Ts: ts, Writes: writes}, Shard: to, Round: round}
}

// sends looks whether just this is sent, and, if anything is, whether it is outstanding then.
func sends(t *testing.T, what string, c *Coord, got []Send, want ...Send) {
	t.Helper()
	if told(got) != told(want) {
		t.Fatalf("%s: sent is\n%s\nwant\n%s", what, told(got), told(want))
	}
	if len(want) > 0 {
		outstanding(t, what, c, want...)
	}
}

// outstanding looks whether just this is.
func outstanding(t *testing.T, what string, c *Coord, want ...Send) {
	t.Helper()
	for range 2 {
		if got := c.Retry(); told(got) != told(want) {
			t.Fatalf("%s: outstanding is\n%s\nwant\n%s", what, told(got), told(want))
		}
	}
}

// is looks what it tells of itself.
func is(t *testing.T, what string, c *Coord, waits, over bool, reply ...[]byte) {
	t.Helper()
	b, known := c.Reply()
	if c.Waits() != waits || c.Over() != over || known != (len(reply) > 0) || known && string(b) != string(reply[0]) || !known && b != nil {
		t.Fatalf("%s: Waits %v, Over %v, Reply %q, %v", what, c.Waits(), c.Over(), b, known)
	}
}

func TestExample(t *testing.T) { // P23.2
	x := txn(3, 1)
	c := New(x, []plan.Op{get("t", num(1))}, at("m"))
	lockT := locks(1, 0, x, key(string(entry().Key), false))
	sends(t, "ahead of Begin", c, c.Retry())
	sends(t, "Begin", c, c.Begin(), lockT)
	sends(t, "Begin again", c, c.Begin())
	outstanding(t, "Begin again", c, lockT)
	decide := decides(2, 1, x, 7, failed(api.ErrName, 0))
	sends(t, "Granted", c, c.Result(0, 1, granted(7)), decide)
	finish := finishes(3, 0, x, 7)
	sends(t, "decided", c, c.Result(1, 2, decision(shard.Record{Commit: true, Ts: 7, Reply: decide.Reply})), finish)
	is(t, "decided", c, false, false, decide.Reply)
	sends(t, "finished", c, c.Result(0, 3, result{}))
	outstanding(t, "finished", c)
	is(t, "finished", c, false, true, decide.Reply)
}

func TestRounds(t *testing.T) { // P23.2: what a Put with an index reads, over several shards
	x := txn(5, 9)
	splits := at("i", "r")
	c := New(x, []plan.Op{put("t", num(1), text("b"))}, splits)
	old, oldEntry := stored(1, "a")
	fresh, freshEntry := stored(1, "b")
	sends(t, "Begin", c, c.Begin(), locks(1, 0, x, key(string(entry().Key), false)))
	sends(t, "the entry", c, c.Result(0, 1, granted(4, entry())), locks(2, 2, x, key(string(old.Key), true)))
	is(t, "the row is asked for", c, false, false)
	sends(t, "the row", c, c.Result(2, 2, granted(9, old)), locks(3, 1, x, key(string(oldEntry.Key), true), key(string(freshEntry.Key), true)))
	writes := []api.Write{gone(string(oldEntry.Key)), write(string(freshEntry.Key), string(freshEntry.Value)), write(string(fresh.Key), string(fresh.Value))}
	reply := plan.Reply{Rows: make([][][]api.Cell, 1)}.Bytes()
	decide := decides(4, 2, x, 9, reply, writes...) // 9 is the greatest Ts, though not the last one
	sends(t, "the index", c, c.Result(1, 3, granted(2, oldEntry)), decide)
	sends(t, "decided", c, c.Result(2, 4, decision(shard.Record{Commit: true, Ts: 9, Writes: writes, Reply: reply})),
		finishes(5, 0, x, 9), finishes(5, 1, x, 9, writes[:2]...), finishes(5, 2, x, 9, writes[2]))
	sends(t, "one has finished", c, c.Result(1, 5, result{}))
	outstanding(t, "one has finished", c, finishes(5, 0, x, 9), finishes(5, 2, x, 9, writes[2]))
	sends(t, "again", c, c.Result(1, 5, result{}))
	sends(t, "another one, with an error", c, c.Result(2, 5, result{Err: api.ErrGuard}))
	is(t, "two have finished", c, false, false, reply)
	sends(t, "all", c, c.Result(0, 5, result{}))
	is(t, "all", c, false, true, reply)
	sends(t, "behind the end", c, c.Result(0, 5, result{}))
	sends(t, "behind the end", c, c.GiveUp())
	outstanding(t, "behind the end", c)
}

func TestCutRanges(t *testing.T) { // P23.2: a range over several shards is known as a whole
	x := txn(0, 1)
	one, _ := stored(1, "a")
	two, _ := stored(2, "b")
	three, _ := stored(3, "c")
	splits := [][]byte{two.Key, three.Key}
	from := string(row.Prefix(people()))
	rows := func(list ...int64) []byte {
		var out [][]api.Cell
		for _, id := range list {
			out = append(out, []api.Cell{num(id), text(string(rune('a' + id - 1)))})
		}
		return plan.Reply{Rows: [][][]api.Cell{out}}.Bytes()
	}
	pieces := []Send{locks(2, 0, x, between(from, string(two.Key), false)), locks(2, 1, x, between(string(two.Key), string(three.Key), false)), locks(2, 2, x, between(string(three.Key), "r\x08", false))}
	for _, order := range [][]int{{0, 1, 2}, {2, 1, 0}, {1, 2, 0}, {2, 0, 1}} {
		c := New(x, []plan.Op{list("t", 9)}, splits)
		c.Begin()
		sends(t, "the entry", c, c.Result(0, 1, granted(1, entry())), pieces...)
		for i, shard := range order[:2] {
			sends(t, "one is granted", c, c.Result(shard, 2, granted(uint64(6-i), []api.Pair{one, two, three}[shard])))
			sends(t, "again, with something else", c, c.Result(shard, 2, granted(99, one, two, three)))
		}
		outstanding(t, "two are granted", c, pieces[order[2]])
		sends(t, "all are granted", c, c.Result(order[2], 2, granted(3, []api.Pair{one, two, three}[order[2]])), decides(3, 0, x, 6, rows(1, 2, 3)))
	}
	c := New(x, []plan.Op{list("t", 9)}, splits)
	c.Begin()
	c.Result(0, 1, granted(1, entry()))
	c.Result(2, 2, granted(1, two, three, one)) // what isn't in the pieces of a shard it doesn't tell
	c.Result(1, 2, granted(1, pair("r\x07x", "")))
	sends(t, "pairs beside the pieces", c, c.Result(0, 2, granted(1, three, two, pair("r\x06", ""))), decides(3, 0, x, 1, rows(3)))
	c = New(x, []plan.Op{create(people())}, at("c\x05"))
	sends(t, "Create", c, c.Begin(), locks(1, 0, x, between("c", "c\x05", true)), locks(1, 1, x, between("c\x05", "d", true)))
	c.Result(1, 1, granted(1))
	decide := decides(2, 0, x, 2, plan.Reply{Rows: make([][][]api.Cell, 1)}.Bytes(), write(string(entry().Key), string(entry().Value)))
	sends(t, "Create", c, c.Result(0, 1, granted(2)), decide)
}

func TestWaits(t *testing.T) { // P23.2
	x := txn(2, 1)
	c := New(x, []plan.Op{create(people())}, at("c\x05"))
	both := c.Begin()
	is(t, "Begin", c, false, false)
	sends(t, "1 waits", c, c.Result(1, 1, waiting))
	is(t, "1 waits", c, true, false)
	outstanding(t, "1 waits", c, both...)
	sends(t, "1 waits yet", c, c.Result(1, 1, waiting))
	sends(t, "0 is granted", c, c.Result(0, 1, granted(1)))
	is(t, "0 is granted", c, true, false)
	outstanding(t, "0 is granted", c, both[1])
	sends(t, "no answer", c, c.Result(1, 1, result{Status: lock.Free}))
	sends(t, "no answer", c, c.Result(1, 1, result{Status: 9}))
	is(t, "no answer", c, true, false)
	sends(t, "a late one", c, c.Result(0, 1, waiting))
	c.Result(1, 1, granted(1))
	is(t, "all is granted", c, false, false)
	c = New(x, []plan.Op{create(people())}, at("c\x05"))
	c.Begin()
	c.Result(0, 1, waiting)
	c.Result(0, 1, granted(1))
	is(t, "granted since", c, false, false)
	outstanding(t, "granted since", c, both[1])
	for what, at := range map[string]int{"below": -1, "above": 2, "done": 0} {
		c.Result(at, 1, waiting)
		is(t, what, c, false, false)
	}
	for _, round := range []int{-1, 0, 2, 1 << 60} {
		c.Result(1, round, waiting)
		sends(t, "another round", c, c.Result(1, round, granted(1)))
		sends(t, "another round", c, c.Result(1, round, refused))
		is(t, "another round", c, false, false)
	}
	outstanding(t, "another round", c, both[1])
	c = New(x, []plan.Op{get("t", num(1))}, at("m"))
	c.Begin()
	c.Result(0, 1, waiting)
	c.Result(0, 1, granted(1, entry()))
	is(t, "it waited in the round ahead", c, false, false)
}

func TestGivingUp(t *testing.T) { // P23.2
	x := txn(2, 1)
	busy := failed(api.ErrBusy, 0)
	for what, r := range map[string]result{
		"Refused": refused, "ErrOld": {Err: api.ErrOld}, "ErrArg": {Err: api.ErrArg}, "ErrFull": {Err: api.ErrFull}, "ErrForm": {Err: api.ErrForm}, "an Err, Granted": {Err: api.ErrOld, Status: lock.Granted, Ts: 5}, "an Err, Waiting": {Err: api.ErrOld, Status: lock.Waiting},
	} {
		for _, ahead := range []result{waiting, granted(8), {}} {
			c := New(x, []plan.Op{create(people())}, at("c\x05", "m"))
			c.Begin()
			c.Result(0, 1, ahead)
			sends(t, what, c, c.Result(1, 1, r), decides(2, 2, x, 0, busy))
			is(t, what, c, false, false)
			sends(t, what+", a late result", c, c.Result(0, 1, granted(1)))
			sends(t, what+", given up already", c, c.GiveUp())
			outstanding(t, what, c, decides(2, 2, x, 0, busy))
			sends(t, what, c, c.Result(2, 2, decision(shard.Record{Reply: busy})), finishes(3, 0, x, 0), finishes(3, 1, x, 0))
			is(t, what, c, false, false, busy)
			c.Result(1, 3, result{})
			c.Result(0, 3, result{})
			is(t, what, c, false, true, busy)
		}
	}
}

func TestGiveUp(t *testing.T) { // P23.2
	x := txn(1, 1)
	busy := failed(api.ErrBusy, 0)
	c := New(x, []plan.Op{get("t", num(1))}, at("d", "m"))
	sends(t, "it hasn't begun", c, c.GiveUp())
	sends(t, "it hasn't begun", c, c.Retry())
	sends(t, "it hasn't begun", c, c.Result(0, 0, granted(1)))
	sends(t, "it hasn't begun", c, c.Result(0, 1, granted(1)))
	is(t, "it hasn't begun", c, false, false)
	sends(t, "Begin", c, c.Begin(), locks(1, 0, x, key(string(entry().Key), false)))
	sends(t, "the first round", c, c.GiveUp(), decides(2, 1, x, 0, busy))
	sends(t, "twice", c, c.GiveUp())
	sends(t, "granted later", c, c.Result(0, 1, granted(1)))
	sends(t, "decided", c, c.Result(1, 2, decision(shard.Record{Reply: busy})), finishes(3, 0, x, 0))
	sends(t, "decided", c, c.GiveUp())

	one, _ := stored(1, "a")
	c = New(x, []plan.Op{get("t", num(1))}, at("d", "m"))
	c.Begin()
	sends(t, "the second round", c, c.Result(0, 1, granted(5, entry())), locks(2, 2, x, key(string(one.Key), false)))
	c.Result(2, 2, waiting)
	sends(t, "the second round", c, c.GiveUp(), decides(3, 1, x, 0, busy))
	is(t, "given up", c, false, false)
	sends(t, "decided", c, c.Result(1, 3, decision(shard.Record{Reply: busy})), finishes(4, 0, x, 0), finishes(4, 2, x, 0))

	c = New(x, []plan.Op{get("t", num(1))}, at("d", "m"))
	c.Begin()
	decide := c.Result(0, 1, granted(5))
	sends(t, "it decides", c, c.GiveUp())
	outstanding(t, "it decides", c, decide...)
}

func TestDecisions(t *testing.T) { // P23.2: the Record is the decision, whoever made it
	x := txn(4, 2)
	begun := func() *Coord {
		c := New(x, []plan.Op{get("t", num(1))}, at("d", "i", "r"))
		c.Begin()
		c.Result(0, 1, granted(5))
		return c
	}
	decide := decides(2, 0, x, 5, failed(api.ErrName, 0))
	c := begun()
	for _, e := range []api.Errno{api.ErrSize, api.ErrArg, api.ErrForm} {
		sends(t, "an Err", c, c.Result(0, 2, result{Err: e, Record: shard.Record{Commit: true, Reply: []byte("r")}}))
		outstanding(t, "an Err", c, decide)
		is(t, "an Err", c, false, false)
	}
	sends(t, "of another shard", c, c.Result(1, 2, decision(shard.Record{Commit: true})))
	sends(t, "of another round", c, c.Result(0, 1, decision(shard.Record{Commit: true})))
	sends(t, "of another round", c, c.Result(0, 3, decision(shard.Record{Commit: true})))
	sends(t, "given up", c, c.Result(0, 2, decision(shard.Record{Reply: []byte("r")})), finishes(3, 0, x, 0))
	is(t, "given up", c, false, false, []byte("r"))

	c = begun()
	writes := []api.Write{write("z", "1"), gone("d"), write("j", ""), write("i", "2"), gone("zz")}
	sends(t, "other writes", c, c.Result(0, 2, decision(shard.Record{Commit: true, Ts: 77, Writes: writes, Reply: []byte("other")})),
		finishes(3, 0, x, 77), finishes(3, 1, x, 77, writes[1]), finishes(3, 2, x, 77, writes[2], writes[3]), finishes(3, 3, x, 77, writes[0], writes[4]))
	is(t, "other writes", c, false, false, []byte("other"))
	sends(t, "the Decide's result again", c, c.Result(0, 2, decision(shard.Record{})))
	is(t, "the Decide's result again", c, false, false, []byte("other"))

	c = begun()
	c.Result(0, 2, result{})
	is(t, "a Record with nothing", c, false, false, nil)
}

func TestWithoutLocks(t *testing.T) { // P23.2: nothing is needed: 1 is the Ts
	x := txn(6, 1)
	for what, ops := range map[string][]plan.Op{"no ops": nil, "too many": make([]plan.Op, 17), "a kind that is none": {{Kind: 11}}, "no table's definition": {create(api.Table{})}} {
		reply := plan.Run(ops).Reply.Bytes()
		c := New(x, ops, at("d", "m", "r"))
		sends(t, what, c, c.Begin(), decides(1, 2, x, 1, reply))
		is(t, what, c, false, false)
		sends(t, what, c, c.Result(2, 1, decision(shard.Record{Commit: true, Ts: 1, Reply: reply})))
		is(t, what, c, false, true, reply)
		outstanding(t, what, c)
	}
	c := New(x, nil, at("d"))
	c.Begin()
	sends(t, "a Record with writes", c, c.Result(0, 1, decision(shard.Record{Commit: true, Ts: 3, Writes: []api.Write{write("k", "1")}})), finishes(2, 1, x, 3, write("k", "1")))
	c = New(x, []plan.Op{get("t", num(1))}, nil)
	c.Begin()
	sends(t, "Locks without a Ts", c, c.Result(0, 1, granted(0)), decides(2, 0, x, 1, failed(api.ErrName, 0)))
}

func TestOrphan(t *testing.T) { // P23.2
	x := txn(7, 3)
	busy := failed(api.ErrBusy, 0)
	c := Orphan(x, at("d", "m"), 2, 0, 2, 3, -1, 1<<40, 2)
	sends(t, "it hasn't begun", c, c.Retry())
	is(t, "it hasn't begun", c, false, false)
	sends(t, "Begin", c, c.Begin(), decides(1, 1, x, 0, busy))
	is(t, "Begin", c, false, false)
	sends(t, "GiveUp", c, c.GiveUp())
	outstanding(t, "GiveUp", c, decides(1, 1, x, 0, busy))
	sends(t, "an Err", c, c.Result(1, 1, result{Err: api.ErrArg}))
	sends(t, "decided", c, c.Result(1, 1, decision(shard.Record{Reply: busy})), finishes(2, 0, x, 0), finishes(2, 2, x, 0))
	is(t, "decided", c, false, false, busy)
	c.Result(0, 2, result{})
	c.Result(2, 2, result{})
	is(t, "finished", c, false, true, busy)

	c = Orphan(x, at("d", "m"), 2)
	c.Begin()
	sends(t, "it was decided to commit", c, c.Result(1, 1, decision(shard.Record{Commit: true, Ts: 9, Writes: []api.Write{write("a", "1"), write("z", "2")}, Reply: []byte("r")})),
		finishes(2, 0, x, 9, write("a", "1")), finishes(2, 2, x, 9, write("z", "2")))
	is(t, "it was decided to commit", c, false, false, []byte("r"))

	c = Orphan(x, nil)
	sends(t, "without shards", c, c.Begin(), decides(1, 0, x, 0, busy))
	sends(t, "without shards", c, c.Result(0, 1, decision(shard.Record{Reply: busy})))
	is(t, "without shards", c, false, true, busy)
}
