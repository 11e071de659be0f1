package plan

import (
	"bytes"
	"fmt"
	"maps"
	"math/rand/v2"
	"slices"
	"testing"

	"caisson/api"
	"caisson/catalog"
)

// pairs are those of a store in a range, in no order, if so wanted.
func pairs(store map[string]string, r api.Range, shuffle *rand.Rand) []api.Pair {
	var out []api.Pair
	for _, key := range slices.Sorted(maps.Keys(store)) {
		if bytes.Compare(r.From, []byte(key)) <= 0 && (len(r.To) == 0 || key < string(r.To)) {
			out = append(out, api.Pair{Key: []byte(key), Value: []byte(store[key])})
		}
	}
	if shuffle != nil {
		shuffle.Shuffle(len(out), func(i, j int) { out[i], out[j] = out[j], out[i] })
	}
	return out
}

// apply does writes.
func apply(store map[string]string, writes []api.Write) {
	for _, w := range writes {
		if delete(store, string(w.Key)); !w.Gone {
			store[string(w.Key)] = string(w.Value)
		}
	}
}

func sameRange(a, b api.Range) bool {
	return bytes.Equal(a.From, b.From) && bytes.Equal(a.To, b.To) && a.Excl == b.Excl
}

func sameWrite(a, b api.Write) bool {
	return bytes.Equal(a.Key, b.Key) && bytes.Equal(a.Value, b.Value) && a.Gone == b.Gone
}

// needed is what must be asked for next, by the words of the document.
func needed(steps [][]api.Range, known []Known) []api.Range {
	for _, step := range steps {
		var out []api.Range
		for _, r := range step {
			if !slices.ContainsFunc(known, func(k Known) bool { return isIn(r, k.Range) }) {
				out = append(out, r)
			}
		}
		if len(out) > 0 {
			return out
		}
	}
	return nil
}

// life is a store, and what it is meant to be.
type life struct {
	*testing.T
	p     plain
	store map[string]string
	r     *rand.Rand
}

// wider is a range that has all keys of another one, and more sometimes.
func (l *life) wider(r api.Range) api.Range {
	switch l.r.IntN(6) {
	case 0:
		r.Excl = true
	case 1:
		r.From = r.From[:l.r.IntN(len(r.From)+1)]
	case 2:
		r.To = nil
	case 3:
		r = api.Range{Excl: r.Excl}
	}
	return r
}

// comesTo looks whether an outcome is what it must be.
func (l *life) comesTo(what string, got Outcome, need []api.Range, reply Reply, writes []api.Write) {
	l.Helper()
	if len(need) > 0 {
		reply, writes = Reply{}, nil
	}
	switch {
	case !slices.EqualFunc(got.Need, need, sameRange):
		l.Fatalf("%s: Need = %v; want %v", what, got.Need, need)
	case !alike(got.Reply, reply):
		l.Fatalf("%s: Reply = %.1000v; want %.1000v", what, got.Reply, reply)
	case !slices.EqualFunc(got.Writes, writes, sameWrite):
		l.Fatalf("%s: Writes = %v; want %v", what, got.Writes, writes)
	}
}

// asks looks what a request comes to, with all known and with less, and does it.
func (l *life) asks(what string, ops ...Op) Reply {
	l.Helper()
	what = what + " " + told(ops)
	x, reply := l.p.run(ops)
	var writes []api.Write
	if reply.Err == 0 {
		writes = x.writes()
	}
	whole := Known{Range: api.Range{Excl: true}, Pairs: pairs(l.store, api.Range{}, l.r)}
	l.comesTo(what, Run(ops, whole), nil, reply, writes)
	whole.Excl = false
	l.comesTo(what+", all known, not for oneself alone", Run(ops, whole), needed(x.steps, []Known{whole}), reply, writes)
	for _, wide := range []bool{false, true} {
		var known []Known
		var own []api.Range
		for turns := 0; ; turns++ {
			got := Run(ops, known...)
			need := needed(x.steps, known)
			l.comesTo(fmt.Sprint(what, ", known ", len(known), ", wide ", wide), got, need, reply, writes)
			if len(need) == 0 {
				break
			}
			own = append(own, need...)
			for _, r := range need {
				if wide {
					r = l.wider(r)
				}
				known = append(known, Known{Range: r, Pairs: pairs(l.store, r, l.r)})
			}
		}
		for _, w := range writes {
			if !wide && !slices.ContainsFunc(own, func(r api.Range) bool { return isIn(one(string(w.Key), true), r) }) {
				l.Fatalf("%s: %q is written, but wasn't needed for oneself alone", what, w.Key)
			}
		}
	}
	l.p = x.plain
	apply(l.store, writes)
	if want := l.p.stored(); !maps.Equal(l.store, want) {
		l.Fatalf("%s: what is stored differs at %q", what, differ(l.store, want))
	}
	l.expected(what)
	return reply
}

// expected looks whether just those entries are there that layer 21 wants.
func (l *life) expected(what string) {
	l.Helper()
	var want []api.Pair
	for _, t := range l.p {
		e, _ := catalog.Decode([]byte(l.store[string(catalog.Key(t.Name))]))
		var rows []api.Pair
		for _, key := range t.keys() {
			rows = append(rows, api.Pair{Key: []byte(key), Value: []byte(l.store[key])})
		}
		list, f := catalog.Expected(e, rows...)
		if f != 0 {
			l.Fatalf("%s: Expected = %v", what, f)
		}
		want = append(want, list...)
	}
	got := pairs(l.store, all("i", false), nil)
	slices.SortFunc(want, func(a, b api.Pair) int { return bytes.Compare(a.Key, b.Key) })
	if !alike(got, want) {
		l.Fatalf("%s: the entries are %q; want %q", what, got, want)
	}
}

// begin is an empty store.
func begin(t *testing.T, seed uint64) *life {
	return &life{T: t, p: plain{}, store: map[string]string{}, r: rand.New(rand.NewPCG(22, seed))}
}

// defs are tables that scripts create.
func defs() []api.Table {
	return []api.Table{
		{Id: 1, Name: "t", Cols: []api.Col{{Name: "id", Kind: api.Int}, {Name: "name", Kind: api.Text, Null: true}, {Name: "tag", Kind: api.Bytes, Null: true}}, Keys: 1},
		{Id: 2, Name: "u", Cols: []api.Col{{Name: "a", Kind: api.Text}, {Name: "b", Kind: api.Bool}, {Name: "c", Kind: api.Int, Null: true}}, Keys: 2, Indexes: []api.Index{{Name: "x", Cols: []int{2}, Unique: true}, {Name: "y", Cols: []int{1, 0}}}},
		{Id: 255, Name: "w", Cols: []api.Col{{Name: "a", Kind: api.Int}, {Name: "b", Kind: api.Text}}, Keys: 2, Indexes: []api.Index{{Name: "z", Cols: []int{1}, Unique: true}}},
	}
}

// anyCell is a cell for a column, seldom one that doesn't fit.
func anyCell(r *rand.Rand, c api.Col) api.Cell {
	odd := r.IntN(60)
	switch {
	case odd == 0:
		return oddCells()[r.IntN(9)]
	case odd == 1:
		return text("\xff")
	case odd == 2:
		return text(long(201))
	case odd == 3:
		return api.Cell{Kind: 9}
	case c.Null && r.IntN(5) == 0:
		return null()
	}
	switch c.Kind {
	case api.Int:
		return num(int64(r.IntN(14)))
	case api.Bool:
		return truth(r.IntN(2) == 0)
	case api.Bytes:
		return data(make([]byte, r.IntN(3))...)
	}
	if odd < 7 {
		return text(long(150 + r.IntN(51)))
	}
	return text([]string{"", "a", "A", "b", "c", "ä"}[r.IntN(6)])
}

// anyOp is an op on one of the tables.
func anyOp(r *rand.Rand, p plain) Op {
	def := defs()[r.IntN(3)]
	t := p[def.Name]
	if t == nil && r.IntN(10) > 0 {
		return Op{Kind: Create, Def: def}
	}
	if t == nil {
		t = &plainTable{Table: def}
	}
	op := Op{Kind: 1 + r.IntN(10), Table: def.Name, Most: 1 + r.IntN(6)}
	if r.IntN(3) == 0 {
		op.Kind = []int{Put, Put, Put, Remove}[r.IntN(4)]
	}
	if t.phase != catalog.Public && r.IntN(4) == 0 {
		op.Kind = Step
	}
	if r.IntN(200) == 0 {
		op.Kind = []int{0, 11, -1}[r.IntN(3)]
	}
	if r.IntN(60) == 0 {
		op.Table = []string{"v", "", long(16), long(17)}[r.IntN(4)]
	}
	if r.IntN(30) == 0 {
		op.Most = []int{0, -1, 64, 65}[r.IntN(4)]
	}
	cols := t.Cols
	switch op.Kind {
	case Remove, Get:
		cols = cols[:t.Keys]
	case Expect:
		cols = cols[:[]int{t.Keys, len(cols)}[r.IntN(2)]]
	}
	op.Name = fmt.Sprintf("i%d", r.IntN(4))
	if n := len(t.Indexes); n > 0 && r.IntN(20) > 0 {
		x := t.Indexes[r.IntN(n)]
		if op.Kind == DropIndex && r.IntN(4) > 0 {
			x = t.Indexes[n-1]
		}
		if op.Name = x.Name; op.Kind == Find {
			cols = nil
			for _, c := range x.Cols[:r.IntN(len(x.Cols)+1)] {
				cols = append(cols, t.Cols[c])
			}
		}
	}
	for _, c := range cols {
		op.Cells = append(op.Cells, anyCell(r, c))
	}
	if r.IntN(40) == 0 && len(op.Cells) > 0 {
		op.Cells = append(op.Cells[r.IntN(2):], num(5))
	}
	op.Index = api.Index{Name: fmt.Sprintf("i%d", r.IntN(4)), Unique: r.IntN(3) > 0}
	for _, c := range r.Perm(len(t.Cols))[:1+r.IntN(len(t.Cols))] {
		op.Index.Cols = append(op.Index.Cols, c)
	}
	if op.Kind == Create {
		op.Def = def
		if n := r.IntN(9); r.IntN(9) > 0 {
			op.Def.Name, op.Def.Id = fmt.Sprint("n", n), 40+n
		}
	}
	return op
}

// play does a script: each byte tells of a request.
func play(t *testing.T, seed uint64, script []byte) map[string]int {
	l := begin(t, seed)
	seen := map[string]int{}
	for i, b := range script {
		r := rand.New(rand.NewPCG(uint64(b), uint64(i)))
		var ops []Op
		for range 1 + int(b)%4 {
			ops = append(ops, anyOp(r, l.p))
		}
		if b == 0 {
			ops = slices.Repeat(ops, 17)
		}
		ahead := l.p.clone()
		reply := l.asks(fmt.Sprintf("the request %d", i), ops...)
		if reply.Err != 0 {
			seen[fmt.Sprint("kind ", ops[reply.At].Kind, " error ", int(reply.Err))]++
			continue
		}
		for _, op := range ops {
			seen[fmt.Sprint("kind ", op.Kind)]++
		}
		for name, x := range l.p {
			seen[fmt.Sprint("phase ", x.phase)]++
			dropped := slices.ContainsFunc(ops, func(op Op) bool { return op.Kind == DropIndex })
			if old := ahead[name]; old != nil && !dropped && old.phase != x.phase {
				seen[fmt.Sprint("a step from ", old.phase, " to ", x.phase)]++
			}
		}
	}
	return seen
}

func TestPlays(t *testing.T) { // P22.2 to P22.5
	r := rand.New(rand.NewPCG(22, 5))
	seen := map[string]int{}
	for i := range 60 {
		script := make([]byte, 120)
		for i := range script {
			script[i] = byte(r.Uint32())
		}
		for what, n := range play(t, uint64(i), script) {
			seen[what] += n
		}
	}
	for _, what := range []string{"phase 0", "phase 1", "phase 2", "a step from 1 to 0", "a step from 1 to 2", "a step from 2 to 0", "kind 0 error 3", "kind 1", "kind 1 error 2", "kind 1 error 7", "kind 2", "kind 2 error 2", "kind 2 error 11", "kind 3", "kind 3 error 6", "kind 4", "kind 5", "kind 5 error 6", "kind 5 error 12", "kind 6", "kind 7", "kind 7 error 7", "kind 7 error 12", "kind 8", "kind 8 error 1", "kind 8 error 6", "kind 9", "kind 9 error 6", "kind 10", "kind 10 error 15"} {
		if seen[what] < 5 {
			t.Errorf("only so often %s: %d", what, seen[what])
		}
	}
}

// FuzzPlay: any script.
func FuzzPlay(f *testing.F) { // P22.2 to P22.5
	f.Add(uint64(1), []byte("some requests, one behind the other"))
	f.Fuzz(func(t *testing.T, seed uint64, script []byte) { play(t, seed, script[:min(len(script), 100)]) })
}
