package coord

import (
	"fmt"
	"math"
	"math/rand/v2"
	"reflect"
	"slices"
	"strings"
	"testing"

	"caisson/api"
	"caisson/lock"
	"caisson/plan"
	"caisson/shard"
)

// whole is all that a value has, the spare room of its lists too.
func whole(v reflect.Value) string {
	var out strings.Builder
	switch v.Kind() {
	case reflect.Slice:
		fmt.Fprint(&out, v.Len(), "[")
		for i := range v.Cap() {
			out.WriteString(whole(v.Slice(0, v.Cap()).Index(i)))
		}
		out.WriteString("]")
	case reflect.Struct:
		for i := range v.NumField() {
			out.WriteString(whole(v.Field(i)))
		}
	case reflect.Interface:
		if !v.IsNil() {
			return whole(v.Elem())
		}
	default:
		fmt.Fprintf(&out, "%v ", v)
	}
	return out.String()
}

// wholes is all that values have.
func wholes(list []reflect.Value) string {
	var out strings.Builder
	for _, v := range list {
		out.WriteString(whole(v))
	}
	return out.String()
}

// roomy is a copy of a value whose lists have spare room with something in it.
func roomy(v reflect.Value) reflect.Value {
	out := reflect.New(v.Type()).Elem()
	switch v.Kind() {
	case reflect.Slice:
		all := reflect.MakeSlice(v.Type(), v.Len()+2, v.Len()+2)
		for i := range v.Len() {
			all.Index(i).Set(roomy(v.Index(i)))
		}
		for i := v.Len(); i < all.Len() && v.Len() > 0; i++ {
			all.Index(i).Set(roomy(v.Index(0)))
		}
		out.Set(all.Slice3(0, v.Len(), v.Len()+2))
	case reflect.Struct:
		for i := range v.NumField() {
			out.Field(i).Set(roomy(v.Field(i)))
		}
	case reflect.Interface:
		if !v.IsNil() {
			out.Set(roomy(v.Elem()))
		}
	default:
		out.Set(v)
	}
	return out
}

// lists are all lists of a value, those within others behind these.
func lists(v reflect.Value) []reflect.Value {
	var out []reflect.Value
	switch v.Kind() {
	case reflect.Slice:
		out = append(out, reflect.ValueOf(v.Interface())) // so that it stays when the list around it is written over
		for i := range v.Len() {
			out = append(out, lists(v.Index(i))...)
		}
	case reflect.Struct:
		for i := range v.NumField() {
			out = append(out, lists(v.Field(i))...)
		}
	case reflect.Interface:
		if !v.IsNil() {
			return lists(v.Elem())
		}
	}
	return out
}

// spoil writes over a list, its spare room too.
func spoil(v reflect.Value) {
	for i := range v.Cap() {
		x := v.Slice(0, v.Cap()).Index(i)
		switch {
		case x.Kind() == reflect.Uint8:
			x.SetUint(77)
		case x.Kind() == reflect.Int:
			x.SetInt(77)
		default:
			x.SetZero()
		}
	}
}

// itself is a value without what the lists in it have.
func itself(v reflect.Value) string {
	switch v.Kind() {
	case reflect.Slice:
		return fmt.Sprint(v.Len())
	case reflect.Struct:
		out := ""
		for i := range v.NumField() {
			out += itself(v.Field(i)) + " "
		}
		return out
	}
	return whole(v)
}

// shown is what lists have, each itself, but for the one at this place.
func shown(all []reflect.Value, but int) string {
	var out strings.Builder
	for i, v := range all {
		for j := range v.Len() {
			if i != but {
				out.WriteString(itself(v.Index(j)))
			}
		}
	}
	return out.String()
}

// remembers looks whether a call changes or keeps what it is handed, and whether its answer's lists are its own.
func remembers(t *testing.T, what string, call any, args ...any) {
	t.Helper()
	f := reflect.ValueOf(call)
	hand := func() []reflect.Value {
		var out []reflect.Value
		for i, a := range args {
			if a == nil {
				a = reflect.Zero(f.Type().In(i)).Interface()
			}
			out = append(out, roomy(reflect.ValueOf(a)))
		}
		return out
	}
	ask := func(in []reflect.Value) []reflect.Value {
		var out []reflect.Value
		answers := f.Call
		if f.Type().IsVariadic() {
			answers = f.CallSlice
		}
		for _, v := range answers(in) {
			out = append(out, lists(v)...)
		}
		return out
	}
	in := hand()
	before := wholes(in)
	got := ask(in)
	if wholes(in) != before {
		t.Errorf("%s changes an argument", what)
	}
	want := shown(got, -1)
	if len(got) == 0 || len(want) == 0 {
		t.Fatalf("%s answers no lists", what)
	}
	for _, v := range in {
		for _, l := range lists(v) {
			spoil(l)
		}
	}
	if shown(got, -1) != want {
		t.Errorf("%s shares memory with an argument", what)
	}
	in = hand()
	one, two := ask(in), ask(in)
	for i, v := range one {
		rest := shown(one, i)
		spoil(v)
		if shown(one, i) != rest {
			t.Errorf("%s: the list %d of its answer shares memory with another one", what, i)
		}
	}
	if shown(two, -1) != want {
		t.Errorf("%s: two answers share memory", what)
	}
}

// spoilAll writes over all lists of values.
func spoilAll(values ...any) {
	for _, v := range values {
		for _, l := range lists(reflect.ValueOf(v)) {
			spoil(l)
		}
	}
}

// aCourse is what a coordinator sends, and says, from its beginning to its end. If so wanted, all that it is handed and all that it answers is written over at once.
func aCourse(spoiled bool) string {
	over := func(values ...any) {
		if spoiled {
			spoilAll(values...)
		}
	}
	var out strings.Builder
	ops := []plan.Op{put("t", num(1), text("b")), list("t", 9), get("t", num(1)), {Kind: plan.Put, Table: "t", Cells: []api.Cell{num(5), {}}}}
	old, oldEntry := stored(1, "a")
	splits := at("i", "r", string(old.Key)+"\x00")
	x := txn(7, 1)
	c := New(x, ops, splits)
	over(ops, splits)
	say := func(list []Send) {
		again := c.Retry()
		out.WriteString(told(list) + "; " + told(again) + "\n")
		over(list, again)
		for range 2 {
			reply, known := c.Reply()
			fmt.Fprintln(&out, c.Waits(), c.Over(), string(reply), known)
			over(reply)
		}
	}
	say(c.Begin())
	have := []api.Pair{entry(), old, oldEntry}
	for round := 1; round < 20; round++ {
		for _, s := range c.Retry() {
			r := shard.Result{Status: lock.Granted, Ts: uint64(round)}
			switch s.Kind {
			case shard.Lock:
				for _, p := range have {
					if slices.ContainsFunc(s.Ranges, func(r api.Range) bool { return has(r, p.Key) }) {
						r.Pairs = append(r.Pairs, ownPair(p))
					}
				}
			case shard.Decide:
				r = shard.Result{Record: shard.Record{Commit: s.Commit, Ts: s.Ts, Writes: s.Writes, Reply: s.Reply}}
			case shard.Finish:
				r = shard.Result{}
			}
			more := c.Result(s.Shard, s.Round, r)
			over(r)
			say(more)
		}
	}
	return out.String()
}

func TestMemory(t *testing.T) { // P23.5
	want := aCourse(false)
	if got := aCourse(true); got != want {
		t.Errorf("what is handed in is kept, or what is answered is: it goes\n%s\nwant\n%s", got, want)
	}
	if !strings.Contains(want, "false true") || !strings.Contains(want, "kind 3") || strings.Count(want, "kind 1") < 10 {
		t.Errorf("it goes\n%s", want)
	}
	splits := at("b", "ba", "m")
	ranges := []api.Range{between("a", "z", true), between("", "", false), between("c", "d", false)}
	remembers(t, "Cut", Cut, splits, ranges)
	remembers(t, "Cut without splits", Cut, [][]byte(nil), ranges)
	remembers(t, "Check", func(splits [][]byte, key []byte) []byte {
		return fmt.Appendf(nil, "%d", int(Check(splits))+Route(splits, key))
	}, splits, []byte("bb"))
	remembers(t, "New", func(ops []plan.Op, splits [][]byte) []Send { return New(txn(1, 1), ops, splits).Begin() }, []plan.Op{create(people())}, at("c\x01", "c\x02"))
	remembers(t, "a request without locks", func(ops []plan.Op) []Send { return New(txn(1, 1), ops, nil).Begin() }, []plan.Op{create(api.Table{Name: "x", Cols: people().Cols})})
	remembers(t, "Orphan", func(splits [][]byte, shards []int) []Send { return Orphan(txn(1, 1), splits, shards...).Begin() }, at("a", "b"), []int{1, 2})
	remembers(t, "a Lock's Result", func(pairs []api.Pair) []Send {
		c := New(txn(1, 1), []plan.Op{put("t", num(1), text("b"))}, at("i"))
		c.Begin()
		return c.Result(0, 1, shard.Result{Status: lock.Granted, Pairs: pairs})
	}, []api.Pair{entry()})
	record := shard.Record{Commit: true, Ts: 3, Writes: []api.Write{write("a", "1"), write("z", "2"), gone("zz")}, Reply: []byte("reply")}
	deciding := func(r shard.Result) *Coord {
		c := Orphan(txn(1, 1), at("m"), 0, 1)
		c.Begin()
		c.Result(1, 1, r)
		return c
	}
	remembers(t, "a Decide's Result", func(r shard.Result) []Send {
		c := Orphan(txn(1, 1), at("m"), 0, 1)
		c.Begin()
		return c.Result(1, 1, r)
	}, shard.Result{Record: record})
	splits, shards := at("m"), []int{0}
	c := Orphan(txn(1, 1), splits, shards...)
	spoilAll(splits, shards, c.Begin())
	sends(t, "an Orphan whose splits are written over", c, c.Result(1, 1, decision(record)), finishes(2, 0, txn(1, 1), 3, record.Writes[0]), finishes(2, 1, txn(1, 1), 3, record.Writes[1:]...))
	remembers(t, "Retry", func(r shard.Result) []Send { return deciding(r).Retry() }, shard.Result{Record: record})
	remembers(t, "Reply", func(r shard.Result) []byte {
		b, _ := deciding(r).Reply()
		return b
	}, shard.Result{Record: record})
	remembers(t, "GiveUp", func(ops []plan.Op) []Send {
		c := New(txn(1, 1), ops, at("i"))
		c.Begin()
		return c.GiveUp()
	}, []plan.Op{create(people())})
}

// oddResults are results of all kinds.
func oddResults() []shard.Result {
	one, inIndex := stored(1, "a")
	long := api.Pair{Key: make([]byte, 3000), Value: make([]byte, 70000)}
	return []shard.Result{
		{}, {Err: -1}, {Err: 99}, {Status: -1}, {Status: 9}, waiting, refused, granted(0), granted(math.MaxUint64), granted(1, entry(), one, inIndex), granted(2, one, one, long, pair("", ""), entry()), granted(3, pair(string(entry().Key), "x")), granted(3, pair(string(one.Key), "\x01\x01"), entry()),
		{Err: 3, Status: lock.Granted, Ts: 5, Pairs: []api.Pair{one}, Record: shard.Record{Commit: true, Ts: 9}},
		decision(shard.Record{Commit: true, Ts: math.MaxUint64, Writes: []api.Write{{}, {Key: long.Key, Value: long.Value, Gone: true}, write("\xff\xff", "1"), write("a", "2"), write("a", "3")}, Reply: long.Value}),
		decision(shard.Record{Writes: []api.Write{write("m", "1")}}),
	}
}

func TestAnyArguments(t *testing.T) { // P1
	splits := append([][][]byte{at("i", "r"), at("\x00", "\xff", "c"), make([][]byte, 300), {make([]byte, 5000), {1}}}, someSplits...)
	ranges := []api.Range{{}, {Excl: true}, between("z", "a", true), between("\xff", "", false), between("a", "a", false), {From: make([]byte, 5000)}, {To: make([]byte, 5000)}}
	numbers := []uint64{0, 1, 2, 7, 1<<32 - 1, math.MaxUint64}
	shards := []int{0, 1, 2, 3, 4, -1, math.MaxInt, math.MinInt}
	requests := [][]plan.Op{nil, {{}}, {{Kind: -5, Most: -1}}, {create(people())}, {put("t", num(1), text("b")), list("t", 9)}, {get("t", num(1)), {Kind: plan.Step, Table: "t", Most: 64}}, make([]plan.Op, 40), {{Kind: plan.Find, Table: "t", Name: "u", Most: 64}}, {create(api.Table{Id: -1, Cols: make([]api.Col, 20)})}}
	r := rand.New(rand.NewPCG(23, 5))
	for _, s := range splits {
		Check(s)
		for _, x := range ranges {
			for _, n := range numbers {
				if home := Home(s, txn(n, n)); home < 0 || home > len(s) {
					t.Fatalf("Home(%.20q, %d) = %d", s, n, home)
				}
			}
			Cut(s, x, x)
			if at := Route(s, x.From); at < 0 || at > len(s) {
				t.Fatalf("Route(%.20q, %.20q) = %d", s, x.From, at)
			}
		}
		Cut(s, ranges...)
		for i, ops := range requests {
			for turn := range 40 {
				x := txn(numbers[r.IntN(len(numbers))], numbers[i%6])
				c := New(x, ops, s)
				if turn%8 == 7 {
					c = Orphan(x, s, shards...)
				}
				goes(c, r, turn, shards)
			}
		}
	}
}

// goes has a coordinator do anything in any order.
func goes(c *Coord, r *rand.Rand, turn int, shards []int) {
	odd := oddResults()
	for step := range 40 {
		switch k := r.IntN(20); {
		case k == 0 || step == 3:
			c.Begin()
		case k == 1:
			c.Retry()
		case k == 2 && turn%3 == 0:
			c.GiveUp()
		case k == 3:
			c.Waits()
			c.Over()
			c.Reply()
		case k < 9:
			c.Result(shards[r.IntN(len(shards))], r.IntN(step+2)-1, odd[r.IntN(len(odd))])
		default:
			for _, s := range c.Retry() {
				x := odd[r.IntN(len(odd))]
				if s.Kind == shard.Lock && r.IntN(4) > 0 {
					x = odd[7+r.IntN(6)]
				}
				c.Result(s.Shard, s.Round, x)
			}
		}
	}
}
