package catalog

import (
	"bytes"
	"fmt"
	"maps"
	"math/rand/v2"
	"slices"
	"strings"
	"testing"

	"caisson/api"
	"caisson/row"
)

// indexed is the table of the examples with an index on name.
func indexed(unique bool) api.Table {
	t := example()
	t.Indexes = []api.Index{{Name: "u", Cols: []int{1}, Unique: unique}}
	return t
}

// lasts are the entries of rows of a table in its last index.
func lasts(t *testing.T, table api.Table, rows ...api.Pair) []api.Pair {
	t.Helper()
	var out []api.Pair
	for _, p := range rows {
		values, f := row.Row(table, p)
		if f != 0 {
			t.Fatalf("Row = %v", f)
		}
		out = append(out, stored(t, table, values...)[len(table.Indexes)])
	}
	slices.SortFunc(out, func(a, b api.Pair) int { return bytes.Compare(a.Key, b.Key) })
	return out
}

func TestBuild(t *testing.T) { // P21.4
	a, b, c, d := pair(t, 1, "d"), pair(t, 2, "c"), pair(t, 3, "b"), pair(t, 4, "c")
	behind := func(p api.Pair) []byte { return append(bytes.Clone(p.Key), 0) }
	start := []byte{114, 7}
	for _, unique := range []bool{false, true} {
		table := indexed(unique)
		all := lasts(t, table, a, b, c, d)
		other := api.Pair{Key: lasts(t, table, b)[0].Key, Value: d.Key}
		for what, x := range map[string]struct {
			cursor []byte
			rows   []api.Pair
			last   bool
			there  []api.Pair
			want   Entry
			writes []api.Pair
		}{
			"some rows":                {start, []api.Pair{a, b, c}, false, nil, entry(table, Building, behind(c)...), lasts(t, table, a, b, c)},
			"all rows":                 {start, []api.Pair{a, b, c}, true, nil, entry(table, Public), lasts(t, table, a, b, c)},
			"a row at the Cursor":      {b.Key, []api.Pair{b, c}, false, nil, entry(table, Building, behind(c)...), lasts(t, table, b, c)},
			"rows far from the Cursor": {behind(a), []api.Pair{d}, false, nil, entry(table, Building, behind(d)...), lasts(t, table, d)},
			"no rows":                  {behind(b), nil, false, nil, entry(table, Building, behind(b)...), nil},
			"no rows, the last":        {behind(b), nil, true, nil, entry(table, Public), nil},
			"no rows, but others":      {behind(b), nil, true, all, entry(table, Public), nil},
			"itself is there":          {start, []api.Pair{a, b}, false, all[:2], entry(table, Building, behind(b)...), lasts(t, table, a, b)},
			"others are there":         {start, []api.Pair{a}, false, []api.Pair{{Key: []byte{0}}, other}, entry(table, Building, behind(a)...), lasts(t, table, a)},
			"another one's is there":   {start, []api.Pair{a, b}, false, []api.Pair{other}, entry(table, Undoing, start...), nil},
			"another one's, the last":  {a.Key, []api.Pair{a, b}, true, []api.Pair{{}, other}, entry(table, Undoing, a.Key...), nil},
			"its own ahead of another": {start, []api.Pair{b}, false, []api.Pair{lasts(t, table, b)[0], other}, entry(table, Building, behind(b)...), lasts(t, table, b)},
			"another ahead of its own": {start, []api.Pair{b}, false, []api.Pair{other, lasts(t, table, b)[0]}, entry(table, Undoing, start...), nil},
			"no value ahead of it":     {start, []api.Pair{b}, false, []api.Pair{{Key: other.Key}, lasts(t, table, b)[0]}, entry(table, Undoing, start...), nil},
		} {
			e, w, f := Build(entry(table, Building, x.cursor...), x.rows, x.last, x.there...)
			if f != 0 || !sameEntry(e, x.want) || !sameWrites(w, puts(x.writes...)) {
				t.Errorf("Build of %s, unique %v = %v, %v, %v; want %v, %v", what, unique, e, w, f, x.want, x.writes)
			}
		}
	}
	for _, last := range []bool{false, true} {
		e, w, f := Build(entry(indexed(true), Building, 114, 7), []api.Pair{a, b, c, d}, last)
		if f != 0 || len(w) != 0 || !sameEntry(e, entry(indexed(true), Undoing, 114, 7)) {
			t.Errorf("Build of a clash = %v, %v, %v", e, w, f)
		}
		e, w, f = Build(entry(indexed(false), Building, 114, 7), []api.Pair{a, b, c, d}, last)
		if f != 0 || len(w) != 4 {
			t.Errorf("Build of what isn't unique = %v, %v, %v", e, w, f)
		}
	}
}

func TestErrorsOfBuild(t *testing.T) { // P21.4
	a, b, c := pair(t, 1, "a"), pair(t, 2, "b"), pair(t, 3, "a")
	odd := api.Pair{Key: b.Key, Value: a.Value}
	index := stored(t, indexed(true), int64(1), "a")[1]
	building := entry(indexed(true), Building, b.Key...)
	for what, x := range map[string]struct {
		e    Entry
		rows []api.Pair
		want api.Errno
	}{
		"rows": {building, []api.Pair{b, c}, 0}, "a row below": {building, []api.Pair{a, b}, api.ErrForm}, "a row far below": {building, []api.Pair{a}, api.ErrForm}, "a row twice": {building, []api.Pair{b, b}, api.ErrForm}, "falling keys": {building, []api.Pair{c, b}, api.ErrForm}, "no row": {building, []api.Pair{odd}, api.ErrForm}, "no row behind a row": {building, []api.Pair{b, {}}, api.ErrForm}, "an index's entry": {building, []api.Pair{index}, api.ErrForm}, "a clash, and falling keys": {entry(indexed(true), Building, 114, 7), []api.Pair{c, a}, api.ErrForm},
		"a Public one": {entry(indexed(true), Public), nil, api.ErrArg}, "one that is undone": {entry(indexed(true), Undoing, b.Key...), []api.Pair{b}, api.ErrArg}, "no index": {entry(example(), Public), nil, api.ErrArg}, "no index, no row": {entry(example(), Public), []api.Pair{odd}, api.ErrArg}, "a Public one, no row": {entry(indexed(true), Public), []api.Pair{{}}, api.ErrArg},
		"rows at the end": {entry(indexed(true), Building, 114, 8), []api.Pair{b}, api.ErrForm}, "no rows at the end": {entry(indexed(true), Building, 114, 8), nil, 0},
	} {
		for _, last := range []bool{false, true} {
			e, w, f := Build(x.e, x.rows, last)
			answers(t, "Build of "+what, f, x.want)
			if f != 0 && (!isZero(e) || w != nil) {
				t.Errorf("Build of %s = %v, %v beside %v", what, e, w, f)
			}
		}
	}
	for _, e := range strange() {
		if got, w, f := Build(e, []api.Pair{a, a}, true, a); !isZero(got) || w != nil || f != Check(e) {
			t.Errorf("Build of %v = %v, %v, %v", e, got, w, f)
		}
	}
}

func TestUndo(t *testing.T) { // P21.4
	a, b, c, d := pair(t, 1, "d"), pair(t, 2, "c"), pair(t, 3, "b"), pair(t, 4, "c")
	end := []byte{114, 8}
	for _, unique := range []bool{false, true} {
		table := indexed(unique)
		without := entry(example(), Public)
		for what, x := range map[string]struct {
			cursor []byte
			rows   []api.Pair
			last   bool
			want   Entry
			writes []api.Pair
		}{
			"some rows":                 {end, []api.Pair{b, c}, false, entry(table, Undoing, b.Key...), lasts(t, table, b, c)},
			"all rows":                  {end, []api.Pair{a, b, c}, true, without, lasts(t, table, a, b, c)},
			"rows just below":           {c.Key, []api.Pair{b}, false, entry(table, Undoing, b.Key...), lasts(t, table, b)},
			"rows far below the Cursor": {d.Key, []api.Pair{a, b}, false, entry(table, Undoing, a.Key...), lasts(t, table, a, b)},
			"no rows":                   {c.Key, nil, false, entry(table, Undoing, c.Key...), nil},
			"no rows, the last":         {c.Key, nil, true, without, nil},
		} {
			e, w, f := Undo(entry(table, Undoing, x.cursor...), x.rows, x.last)
			if f != 0 || !sameEntry(e, x.want) || !sameWrites(w, gone(x.writes...)) {
				t.Errorf("Undo of %s, unique %v = %v, %v, %v; want %v, %v", what, unique, e, w, f, x.want, x.writes)
			}
		}
	}
	// Rows that can't have had entries together are taken as they come: keys rise, so none stands there twice.
	if e, w, f := Undo(entry(indexed(true), Undoing, end...), []api.Pair{a, b, d}, false); f != 0 || !sameWrites(w, gone(lasts(t, indexed(true), b, a)...)) || !sameEntry(e, entry(indexed(true), Undoing, a.Key...)) {
		t.Errorf("Undo of a clash = %v, %v, %v", e, w, f)
	}
	more := wide()
	e, w, f := Undo(entry(more, Undoing, 115), nil, true)
	more.Indexes = more.Indexes[:2]
	if f != 0 || len(w) != 0 || !sameEntry(e, entry(more, Public)) {
		t.Errorf("Undo of the third index = %v, %v, %v", e, w, f)
	}
}

func TestErrorsOfUndo(t *testing.T) { // P21.4
	a, b, c := pair(t, 1, "a"), pair(t, 2, "b"), pair(t, 3, "c")
	odd := api.Pair{Key: a.Key, Value: b.Value}
	index := stored(t, indexed(true), int64(1), "a")[1]
	undoing := entry(indexed(true), Undoing, c.Key...)
	for what, x := range map[string]struct {
		e    Entry
		rows []api.Pair
		want api.Errno
	}{
		"rows": {undoing, []api.Pair{a, b}, 0}, "a row at the Cursor": {undoing, []api.Pair{b, c}, api.ErrForm}, "a row above": {entry(indexed(true), Undoing, b.Key...), []api.Pair{c}, api.ErrForm}, "a row twice": {undoing, []api.Pair{a, a}, api.ErrForm}, "falling keys": {undoing, []api.Pair{b, a}, api.ErrForm}, "no row": {undoing, []api.Pair{odd}, api.ErrForm}, "no row behind a row": {undoing, []api.Pair{a, {Key: []byte{114, 7, 3}}}, api.ErrForm}, "an index's entry": {undoing, []api.Pair{index}, api.ErrForm},
		"a Public one": {entry(indexed(true), Public), nil, api.ErrArg}, "one that is built": {entry(indexed(true), Building, c.Key...), []api.Pair{a}, api.ErrArg}, "no index": {entry(example(), Public), nil, api.ErrArg}, "no index, no row": {entry(example(), Public), []api.Pair{odd}, api.ErrArg},
		"rows at the beginning": {entry(indexed(true), Undoing, 114, 7), []api.Pair{a}, api.ErrForm}, "no rows at the beginning": {entry(indexed(true), Undoing, 114, 7), nil, 0},
	} {
		for _, last := range []bool{false, true} {
			e, w, f := Undo(x.e, x.rows, last)
			answers(t, "Undo of "+what, f, x.want)
			if f != 0 && (!isZero(e) || w != nil) {
				t.Errorf("Undo of %s = %v, %v beside %v", what, e, w, f)
			}
		}
	}
	for _, e := range strange() {
		if got, w, f := Undo(e, []api.Pair{a, a}, true); !isZero(got) || w != nil || f != Check(e) {
			t.Errorf("Undo of %v = %v, %v, %v", e, got, w, f)
		}
	}
}

// life is a table with its rows and entries of indexes, as they are stored.
type life struct {
	*testing.T
	e       Entry
	rows    map[string]string
	entries map[string]string
}

// write does writes. Keys must rise.
func (l *life) write(what string, list []api.Write) {
	l.Helper()
	for i, w := range list {
		if i > 0 && bytes.Compare(list[i-1].Key, w.Key) >= 0 {
			l.Fatalf("%s: the writes' keys don't rise: %v", what, list)
		}
		part := l.entries
		if w.Key[0] == 114 {
			part = l.rows
		}
		if delete(part, string(w.Key)); !w.Gone {
			part[string(w.Key)] = string(w.Value)
		}
	}
}

// pairs are the rows, by their keys.
func (l *life) pairs() []api.Pair {
	var out []api.Pair
	for _, key := range slices.Sorted(maps.Keys(l.rows)) {
		out = append(out, api.Pair{Key: []byte(key), Value: []byte(l.rows[key])})
	}
	return out
}

// agrees looks whether just the entries are there that must be.
func (l *life) agrees(what string) {
	l.Helper()
	answers(l.T, what+": Check", Check(l.e), 0)
	want := map[string]string{}
	count := 0
	for _, p := range l.pairs() {
		values, f := row.Row(l.e.Table, p)
		if f != 0 {
			l.Fatalf("%s: Row = %v", what, f)
		}
		for _, x := range plainImage(l.T, l.e, values...)[1:] {
			want[string(x.Key)] = string(x.Value)
			count++
		}
	}
	if !maps.Equal(l.entries, want) || len(want) != count {
		l.Fatalf("%s: the entries are %q; want %q", what, l.entries, want)
	}
	var list []api.Pair
	for _, key := range slices.Sorted(maps.Keys(want)) {
		list = append(list, api.Pair{Key: []byte(key), Value: []byte(want[key])})
	}
	if got, f := Expected(l.e, l.pairs()...); f != 0 || !same(got, list) {
		l.Fatalf("%s: Expected = %v, %v; want %v", what, got, f, list)
	}
}

// change puts a row in the place of the one with its key, or takes it away, unless another row has an entry of it.
func (l *life) change(what string, put bool, values []any) {
	l.Helper()
	key, _ := row.Key(l.e.Table, values...)
	var old []any
	if value, there := l.rows[string(key)]; there {
		old, _ = row.Row(l.e.Table, api.Pair{Key: key, Value: []byte(value)})
	}
	if !put {
		values = nil
	}
	w, f := Changes(l.e, old, values)
	if f != 0 {
		l.Fatalf("%s: Changes = %v", what, f)
	}
	for _, x := range w {
		if other, there := l.entries[string(x.Key)]; there && !x.Gone && other != string(x.Value) && x.Key[0] == 105 {
			return
		}
	}
	l.write(what, w)
}

// step builds or undoes some rows more. So many are left then that it has to do with.
func (l *life) step(what string, n int) int {
	l.Helper()
	var f api.Errno
	var w []api.Write
	state := *l.e.last()
	var ahead, behind, there []api.Pair
	for _, p := range l.pairs() {
		if bytes.Compare(p.Key, state.Cursor) < 0 {
			ahead = append(ahead, p)
		} else {
			behind = append(behind, p)
		}
	}
	for key, value := range l.entries {
		there = append(there, api.Pair{Key: []byte(key), Value: []byte(value)})
	}
	left := 0
	switch state.Phase {
	case Building:
		n = min(n, len(behind))
		left = len(behind) - n
		l.e, w, f = Build(l.e, behind[:n], left == 0, there...)
	case Undoing:
		n = min(n, len(ahead))
		left = len(ahead) - n
		l.e, w, f = Undo(l.e, ahead[left:], left == 0)
	}
	if f != 0 {
		l.Fatalf("%s: the step = %v", what, f)
	}
	l.write(what, w)
	return left
}

// play does a script's steps, each of two bytes.
func play(t *testing.T, script []byte) (int, map[int]int) {
	e, _ := New(example())
	l := &life{T: t, e: e, rows: map[string]string{}, entries: map[string]string{}}
	seen := map[int]int{}
	ended := 0
	for i := 0; i+1 < len(script); i += 2 {
		op, arg := script[i]%16, int(script[i+1])
		what := fmt.Sprintf("the step %d: %d %d", i, op, arg)
		n := len(l.e.Indexes)
		phase := Public
		if n > 0 {
			phase = l.e.last().Phase
		}
		seen[phase]++
		switch {
		case op < 9:
			l.change(what, op < 6, []any{int64(arg % 16), strings.Repeat("ab"[op%2:], arg/16%3)})
		case op == 9:
			x := api.Index{Name: fmt.Sprint("i", n), Cols: [][]int{{1}, {0}, {1, 0}, {0, 1}}[arg%4], Unique: arg/4%2 == 0}
			if got, f := Add(l.e, x); f == 0 {
				l.e = got
			} else if n < 4 && phase == Public {
				t.Fatalf("%s: Add = %v", what, f)
			}
		case op == 10 && arg%4 == 0 && n > 0:
			got, f := Drop(l.e, fmt.Sprint("i", n-1))
			if f != 0 {
				t.Fatalf("%s: Drop = %v", what, f)
			}
			l.e = got
		case op > 10 && phase != Public:
			left := l.step(what, arg%4)
			if len(l.e.Indexes) < n || l.e.last().Phase == Public {
				ended++
				if left > 0 {
					t.Fatalf("%s: it came to its end with %d rows left", what, left)
				}
			}
		}
		l.agrees(what)
		if n := len(l.e.Indexes); n == 0 && len(l.entries) > 0 {
			t.Fatalf("%s: of no index entries are left: %q", what, l.entries)
		}
	}
	return ended, seen
}

func TestPlays(t *testing.T) { // P21.2 to P21.5
	r := rand.New(rand.NewPCG(21, 1))
	ended := 0
	seen := map[int]int{}
	for range 300 {
		script := make([]byte, 400)
		for i := range script {
			script[i] = byte(r.Uint32())
		}
		n, phases := play(t, script)
		ended += n
		for phase, count := range phases {
			seen[phase] += count
		}
	}
	if ended < 1000 || seen[Building] < 1000 || seen[Undoing] < 1000 {
		t.Errorf("%d were built or undone to their ends; steps in phases: %v", ended, seen)
	}
}

func FuzzPlay(f *testing.F) { // P21.2 to P21.5
	f.Add([]byte{0, 1, 1, 18, 0, 35, 9, 4, 11, 1, 0, 17, 11, 2, 10, 0, 12, 1, 12, 3})
	f.Fuzz(func(t *testing.T, script []byte) { play(t, script[:min(len(script), 400)]) })
}

// FuzzDecode: any bytes are refused, or an entry's.
func FuzzDecode(f *testing.F) { // P21.1, P1
	for _, e := range entries() {
		f.Add(Encode(e))
	}
	f.Fuzz(func(t *testing.T, b []byte) { refused(t, "any bytes", b) })
}
