package merge

import (
	"bytes"
	"math"
	"math/rand/v2"
	"runtime"
	"slices"
	"testing"

	"caisson/api"
	"caisson/mem"
)

// put is a Put of a key.
func put(key string, seq uint64, value string) api.Entry {
	return api.Entry{Key: []byte(key), Seq: seq, Kind: api.Put, Value: []byte(value)}
}

// gone is a Delete of a key.
func gone(key string, seq uint64) api.Entry {
	return api.Entry{Key: []byte(key), Seq: seq, Kind: api.Delete}
}

// same: are these alike, an empty list and nil too?
func same(a, b api.Entry) bool {
	return bytes.Equal(a.Key, b.Key) && a.Seq == b.Seq && a.Kind == b.Kind && bytes.Equal(a.Value, b.Value)
}

// sameAll: are the lists alike?
func sameAll(a, b []api.Entry) bool { return slices.EqualFunc(a, b, same) }

// of makes versions of the key k: n is a Put, -n a Delete.
func of(seqs ...int) []api.Entry {
	var out []api.Entry
	for _, n := range seqs {
		if n < 0 {
			out = append(out, gone("k", uint64(-n)))
		} else {
			out = append(out, put("k", uint64(n), "v"))
		}
	}
	return out
}

// ahead: does a stand ahead of b, by the words of the document?
func ahead(a, b api.Entry) bool {
	return string(a.Key) < string(b.Key) || string(a.Key) == string(b.Key) && a.Seq > b.Seq
}

// plainError is the error of lists, by the words of the document.
func plainError(lists ...[]api.Entry) api.Errno {
	for _, x := range slices.Concat(lists...) {
		if len(x.Key) > 1024 || len(x.Value) > 65536 {
			return 2
		}
	}
	for _, list := range lists {
		for i, x := range list {
			if x.Kind != 1 && x.Kind != 2 || x.Kind == 2 && len(x.Value) > 0 || i > 0 && !ahead(list[i-1], x) {
				return 3
			}
		}
	}
	return 0
}

// plainMerge puts each entry where it belongs, unless its key and Seq are there.
func plainMerge(lists ...[]api.Entry) []api.Entry {
	var out []api.Entry
	for _, x := range slices.Concat(lists...) {
		i := 0
		for i < len(out) && ahead(out[i], x) {
			i++
		}
		if i == len(out) || ahead(x, out[i]) {
			out = slices.Insert(out, i, x)
		}
	}
	return out
}

// plainVersion is the key's version at a moment: its place in the list, or -1.
func plainVersion(list []api.Entry, key []byte, at uint64) int {
	found := -1
	for i, x := range list {
		if bytes.Equal(x.Key, key) && x.Seq <= at && (found < 0 || x.Seq > list[found].Seq) {
			found = i
		}
	}
	return found
}

// plainVisible asks for the version of each key.
func plainVisible(list []api.Entry, at uint64) []api.Entry {
	var out []api.Entry
	for i, x := range list {
		if plainVersion(list, x.Key, at) == i && x.Kind == api.Put {
			out = append(out, x)
		}
	}
	return out
}

// plainKeep asks for the version of each key at each moment, and from all moments on.
func plainKeep(list []api.Entry, bottom bool, moments ...uint64) []api.Entry {
	needed := map[int]bool{}
	for _, x := range list {
		for _, at := range append([]uint64{math.MaxUint64}, moments...) {
			needed[plainVersion(list, x.Key, at)] = true
		}
	}
	var out []api.Entry
	for i, x := range list {
		idle := bottom && x.Kind == api.Delete
		for j, y := range list {
			if needed[j] && y.Kind == api.Put && bytes.Equal(x.Key, y.Key) && y.Seq < x.Seq {
				idle = false
			}
		}
		if needed[i] && !idle {
			out = append(out, x)
		}
	}
	return out
}

// merges looks whether Merge and a Stream answer what the plain one does.
func merges(t *testing.T, lists ...[]api.Entry) {
	t.Helper()
	want := plainMerge(lists...)
	if got, e := Merge(lists...); e != api.OK || !sameAll(got, want) {
		t.Fatalf("Merge(%v) = %v, %v; want %v", lists, got, e, want)
	}
	s, e := Open(lists...)
	if e != api.OK || s == nil {
		t.Fatalf("Open(%v) = %v, %v", lists, s, e)
	}
	goesOn(t, s, want)
}

// goesOn looks whether these entries lie ahead of a stream, and its end behind them.
func goesOn(t *testing.T, s *Stream, want []api.Entry) {
	t.Helper()
	for i, x := range want {
		if got, ok := s.Next(); !ok || !same(got, x) {
			t.Fatalf("Next %d = %v, %v; want %v", i, got, ok, x)
		}
	}
	for range 2 {
		if got, ok := s.Next(); ok || !same(got, api.Entry{}) {
			t.Fatalf("Next at the end = %v, %v", got, ok)
		}
	}
}

// sees looks whether Visible answers what the plain one does.
func sees(t *testing.T, list []api.Entry, at uint64) {
	t.Helper()
	if got, e := Visible(list, at); e != api.OK || !sameAll(got, plainVisible(list, at)) {
		t.Fatalf("Visible(%v, %d) = %v, %v; want %v", list, at, got, e, plainVisible(list, at))
	}
}

// keeps looks whether Keep answers what the plain one does, and whether one sees the same of that.
func keeps(t *testing.T, list []api.Entry, bottom bool, moments ...uint64) {
	t.Helper()
	kept, e := Keep(list, bottom, moments...)
	if want := plainKeep(list, bottom, moments...); e != api.OK || !sameAll(kept, want) {
		t.Fatalf("Keep(%v, %v, %v) = %v, %v; want %v", list, bottom, moments, kept, e, want)
	}
	asked := append([]uint64{math.MaxUint64}, moments...)
	greatest := uint64(0)
	for _, x := range list {
		greatest = max(greatest, x.Seq)
	}
	for _, at := range append(asked, greatest, max(greatest, greatest+1)) {
		if now, e := Visible(kept, at); e != api.OK || !sameAll(now, plainVisible(list, at)) {
			t.Fatalf("of Keep(%v, %v, %v) one sees %v, %v at %d; want %v", list, bottom, moments, now, e, at, plainVisible(list, at))
		}
	}
}

// refused looks whether each call answers this error, and nothing beside it. What is in order is handed in besides, and the lists themselves as the lists of others.
func refused(t *testing.T, what string, want api.Errno, bad ...[]api.Entry) {
	t.Helper()
	fine := []api.Entry{put("a", 2, "x"), gone("b", 1)}
	for _, lists := range [][][]api.Entry{bad, append([][]api.Entry{fine, nil}, bad...), append(slices.Clone(bad), fine)} {
		if got, e := Merge(lists...); len(got) != 0 || e != want {
			t.Errorf("%s: Merge = %v, %v; want %v", what, got, e, want)
		}
		if s, e := Open(lists...); s != nil || e != want {
			t.Errorf("%s: Open = %v, %v; want %v", what, s, e, want)
		}
	}
	if len(bad) > 1 {
		return
	}
	for _, at := range []uint64{0, 3, math.MaxUint64} {
		if got, e := Visible(bad[0], at); len(got) != 0 || e != want {
			t.Errorf("%s: Visible = %v, %v; want %v", what, got, e, want)
		}
		for _, bottom := range []bool{false, true} {
			if got, e := Keep(bad[0], bottom, at); len(got) != 0 || e != want {
				t.Errorf("%s: Keep = %v, %v; want %v", what, got, e, want)
			}
		}
	}
}

func TestExamples(t *testing.T) { // P11.1 to P11.3
	first := []api.Entry{put("k", 9, "first"), put("k", 3, "first")}
	if got, e := Merge(first, []api.Entry{put("k", 5, "second"), put("k", 3, "second")}); e != api.OK || !sameAll(got, []api.Entry{first[0], put("k", 5, "second"), first[1]}) {
		t.Errorf("Merge = %v, %v", got, e)
	}
	for at, want := range map[uint64][]api.Entry{8: of(5), 9: nil, 4: nil} {
		if got, e := Visible(of(-9, 5), at); e != api.OK || !sameAll(got, want) {
			t.Errorf("Visible at %d = %v, %v; want %v", at, got, e, want)
		}
	}
	for _, c := range []struct {
		list    []api.Entry
		bottom  bool
		moments []uint64
		want    []api.Entry
	}{
		{of(9, 7, 5, 3), false, []uint64{6}, of(9, 5)}, {of(-9, 5), true, nil, nil}, {of(-9, 5), true, []uint64{6}, of(-9, 5)}, {of(-9, 5), false, nil, of(-9)}, {of(9, -5, 3), true, []uint64{6}, of(9)},
	} {
		if got, e := Keep(c.list, c.bottom, c.moments...); e != api.OK || !sameAll(got, c.want) {
			t.Errorf("Keep(%v, %v, %v) = %v, %v; want %v", c.list, c.bottom, c.moments, got, e, c.want)
		}
	}
}

func TestNothing(t *testing.T) { // P1, P11.1 to P11.4
	merges(t)
	for _, lists := range [][][]api.Entry{{nil}, {nil, {}, nil}, {{}, of(3)}, {of(3), nil}, {nil, of(5), {}, of(3), nil}} {
		merges(t, lists...)
	}
	for _, list := range [][]api.Entry{nil, {}} {
		for _, at := range []uint64{0, 1, math.MaxUint64} {
			sees(t, list, at)
			keeps(t, list, false, at)
			keeps(t, list, true, at, at)
		}
		keeps(t, list, false)
		keeps(t, list, true)
	}
	var zero Stream
	goesOn(t, &zero, nil)
	for _, key := range [][]byte{nil, {}, []byte("a"), make([]byte, 5000)} {
		zero.Seek(key)
		goesOn(t, &zero, nil)
	}
}

func TestMergeOfThree(t *testing.T) { // P11.1, P11.4: all ways to part and to share a few versions
	const all = 4
	part := func(mask int, value string) []api.Entry {
		var out []api.Entry
		for i, x := range []api.Entry{put("a", 2, value), put("a", 1, value), put("ab", 2, value), put("b", 7, value)} {
			if mask>>i&1 == 1 {
				out = append(out, x)
			}
		}
		return out
	}
	for masks := range 1 << (3 * all) {
		merges(t, part(masks&15, "one"), part(masks>>all&15, "two"), part(masks>>(2*all), "three"))
	}
}

func TestMergeKinds(t *testing.T) { // P11.1: whatever they are, the first list's version alone stays
	for _, lists := range [][][]api.Entry{
		{of(3), of(-3)}, {of(-3), of(3)}, {of(5, -3), of(-5, 3), of(5, 3)}, {of(1), of(-2), of(-1), of(2)},
		{{put("", 0, ""), put("\x00", 0, "")}, {gone("", math.MaxUint64), gone("", 0), put("\x00", 1<<63, "x")}, {put("", 1, "")}, {put("\xff\xff", 1, "")}},
		{{put("a", 1, "x")}, {put("a\x00", 2, "")}, {put("", 1, "")}, {put("a", 1, "y"), put("b", 1, "")}, {put("a", 2, "z")}},
	} {
		merges(t, lists...)
		slices.Reverse(lists)
		merges(t, lists...)
	}
}

func TestMergeOfLongOnes(t *testing.T) { // P11.1: at the limits
	key, value := bytes.Repeat([]byte{7}, api.MaxKey), make([]byte, api.MaxValue)
	list := []api.Entry{{Key: key[:1000], Seq: 1, Kind: api.Put, Value: value}, {Key: key, Seq: 2, Kind: api.Put, Value: value}, {Key: key, Seq: 1, Kind: api.Delete}}
	merges(t, list[1:], list)
	sees(t, list, 1)
	keeps(t, list, true, 1)
}

func TestManyLists(t *testing.T) { // P1, P11.1: neither many lists nor long ones make it slow
	const many = 1 << 16
	var single, alike [][]api.Entry
	for i := range many {
		single = append(single, []api.Entry{put("k", uint64(i*7919%many), "x")})
		alike = append(alike, []api.Entry{put("k", 1, string(rune(65+i)))})
	}
	got, e := Merge(single...)
	if e != api.OK || len(got) != many {
		t.Fatalf("Merge = %d entries, %v", len(got), e)
	}
	for i, x := range got {
		if !same(x, put("k", uint64(many-1-i), "x")) {
			t.Fatalf("the entry %d is %v", i, x)
		}
	}
	if got, e := Merge(alike...); e != api.OK || !sameAll(got, []api.Entry{put("k", 1, "A")}) {
		t.Errorf("Merge of one version: %d entries, %v", len(got), e)
	}
	if both, e := Merge(got, single[5], got); e != api.OK || !sameAll(both, got) {
		t.Errorf("Merge of long ones: %d entries, %v", len(both), e)
	}
	moments := make([]uint64, many/2)
	for i := range moments {
		moments[i] = uint64(many - 1 - 2*i)
	}
	if kept, e := Keep(got, true, moments...); e != api.OK || len(kept) != many/2 || kept[1].Seq != many-3 {
		t.Errorf("Keep at many moments: %d entries, %v", len(kept), e)
	}
	if one, e := Visible(got, many/2); e != api.OK || !sameAll(one, []api.Entry{put("k", many/2, "x")}) {
		t.Errorf("Visible of many: %v, %v", one, e)
	}
}

func TestErrors(t *testing.T) { // P11.1 to P11.4
	bad := api.Entry{Key: []byte("a"), Seq: 1}
	long := api.Entry{Key: make([]byte, api.MaxKey+1), Seq: 1, Kind: api.Put}
	much := api.Entry{Key: []byte("q"), Seq: 1, Kind: api.Put, Value: make([]byte, api.MaxValue+1)}
	for what, list := range map[string][]api.Entry{
		"kind 0": {bad}, "kind 3": {{Kind: 3}}, "kind 255": {put("a", 1, ""), {Key: []byte("b"), Kind: 255}}, "a Delete with a value": {{Kind: api.Delete, Value: []byte("x")}},
		"rising": of(3, 9), "twice": of(3, 3), "put and gone": of(3, -3), "gone twice": of(-3, -3), "rising at the end": of(9, 8, 7, 3, 4), "falling keys": {put("b", 1, ""), put("a", 1, "")}, "a longer key ahead": {put("ab", 1, ""), put("a", 1, "")}, "a key again": {put("a", 2, ""), put("b", 2, ""), put("a", 1, "")}, "the greatest behind": of(1, math.MaxInt),
	} {
		refused(t, what, api.ErrForm, list)
		refused(t, what+", and a long key", api.ErrSize, append(slices.Clone(list), long))
		refused(t, what+", behind a long value", api.ErrSize, append([]api.Entry{much}, list...))
		refused(t, what+", and a long key elsewhere", api.ErrSize, list, []api.Entry{long})
		refused(t, what+", a long value elsewhere", api.ErrSize, []api.Entry{much}, list)
		refused(t, what+", and of(3, 9)", api.ErrForm, list, of(3, 9))
	}
	for what, list := range map[string][]api.Entry{"a long key": {long}, "a long value": {much}, "long ones": {much, long}, "of a bad kind": {{Key: long.Key}}, "a Delete with a long value": {{Kind: api.Delete, Value: much.Value}}} {
		refused(t, what, api.ErrSize, list)
	}
}

// moments are the numbers at which something may change, with their neighbours.
var moments = []uint64{0, 1, 2, 3, 4, 5, 6, 7, 8, 9, 1<<63 - 1, 1 << 63, math.MaxUint64 - 1, math.MaxUint64}

// some are a few lists in order.
func some() [][]api.Entry {
	return [][]api.Entry{
		of(9), of(-9), of(9, 5), of(-9, 5), of(9, -5), of(-9, -5), of(9, 0), of(-9, 0), of(0), of(9, 7, 5, 3), of(9, -7, 5, -3), of(-9, 7, -5, 3), of(-9, -7, -5, 3, -1), of(9, -7, -5, -3),
		{put("", 3, ""), gone("a", 3), put("a", 1, "x"), put("ab", 2, "y"), gone("ab", 0), gone("b", 5), put("c", 4, ""), put("c", 3, "z")},
		{put("a", math.MaxUint64, "x"), put("a", math.MaxUint64-1, "y"), gone("a", 1<<63), put("a", 0, "z"), gone("b", math.MaxUint64), put("b", 1<<63-1, "w"), gone("b", 0), gone("c", math.MaxUint64)},
		{gone("a", 2), gone("a", 1), put("b", 1, ""), gone("c", 2), put("c", 1, ""), gone("d", 2)}, // what one key has says nothing of another
	}
}

func TestVisible(t *testing.T) { // P11.2
	for _, list := range some() {
		for _, at := range moments {
			sees(t, list, at)
		}
	}
}

// each goes through all lists of versions of the key k with the Seqs below 5: each not there, a Put or a Delete.
func each(do func(list []api.Entry)) {
	for n := range 243 {
		var list []api.Entry
		for seq := 4; seq >= 0; seq-- {
			switch n % 3 {
			case 1:
				list = append(list, put("k", uint64(seq), "v"))
			case 2:
				list = append(list, gone("k", uint64(seq)))
			}
			n /= 3
		}
		do(list)
	}
}

func TestVisibleOfAll(t *testing.T) { // P11.2
	each(func(list []api.Entry) {
		for at := range uint64(7) {
			sees(t, list, at)
		}
	})
}

// chosen are the numbers below 6 that a mask has.
func chosen(mask int) []uint64 {
	var out []uint64
	for at := range 6 {
		if mask>>at&1 == 1 {
			out = append(out, uint64(at))
		}
	}
	return out
}

func TestKeepOfAll(t *testing.T) { // P11.3
	each(func(list []api.Entry) {
		for mask := range 64 {
			keeps(t, list, false, chosen(mask)...)
			keeps(t, list, true, chosen(mask)...)
		}
	})
}

func TestKeep(t *testing.T) { // P11.3
	for _, list := range some() {
		for _, a := range moments {
			for _, b := range moments {
				keeps(t, list, false, a, b) // in any order, and twice
				keeps(t, list, true, a, b)
				keeps(t, list, true, b, a, 3, b)
			}
		}
	}
}

func TestKeepHides(t *testing.T) { // P11.3: what is older elsewhere is hidden as before, unless it is the bottom
	older := []api.Entry{put("j", 0, "old"), put("k", 0, "old")}
	each(func(list []api.Entry) {
		if len(list) > 0 && list[len(list)-1].Seq == 0 {
			return
		}
		for mask := range 64 {
			kept, _ := Keep(list, false, chosen(mask)...)
			before, _ := Merge(list, older)
			behind, _ := Merge(kept, older)
			for _, at := range append(chosen(mask), 4, 5, math.MaxUint64) {
				want, _ := Visible(before, at)
				if got, _ := Visible(behind, at); !sameAll(got, want) {
					t.Fatalf("Keep(%v, false, %v): ahead of %v one sees %v at %d; want %v", list, chosen(mask), older, got, at, want)
				}
			}
		}
	})
}

func TestSeek(t *testing.T) { // P11.4
	lists := [][]api.Entry{{put("a", 9, "x"), gone("a", 3), put("c", 2, "")}, {put("a", 5, "y"), put("ab", 0, ""), put("d", math.MaxUint64, "z")}, {put("", 1, "w"), gone("c", math.MaxUint64), put("c", 2, "other")}}
	all := plainMerge(lists...)
	keys := [][]byte{nil, {}, {0}, []byte("a"), []byte("a\x00"), []byte("ab"), []byte("abc"), []byte("b"), []byte("c"), []byte("cc"), []byte("d"), []byte("d\x00"), {255}, bytes.Repeat([]byte("a"), 5000), bytes.Repeat([]byte{255}, 5000)}
	for taken := range len(all) + 1 {
		for _, one := range keys {
			for _, two := range keys {
				s, e := Open(lists...)
				if e != api.OK {
					t.Fatalf("Open = %v", e)
				}
				goesTo(t, s, all[:taken])
				rest := all[taken:]
				for _, key := range [][]byte{one, two, one} {
					s.Seek(key)
					for len(rest) > 0 && string(rest[0].Key) < string(key) {
						rest = rest[1:]
					}
				}
				goesOn(t, s, rest)
				s.Seek(nil) // never back
				goesOn(t, s, nil)
			}
		}
	}
}

// goesTo takes these entries.
func goesTo(t *testing.T, s *Stream, want []api.Entry) {
	t.Helper()
	for _, x := range want {
		if got, ok := s.Next(); !ok || !same(got, x) {
			t.Fatalf("Next = %v, %v; want %v", got, ok, x)
		}
	}
}

func TestTwoStreams(t *testing.T) { // P11.4, P11.5: each goes its own way
	list := of(9, -7, 5, 3)
	one, _ := Open(list, of(1))
	two, _ := Open(list)
	goesTo(t, one, of(9, -7))
	goesTo(t, two, of(9))
	one.Seek([]byte("l"))
	goesOn(t, two, of(-7, 5, 3))
	goesOn(t, one, nil)
}

// random makes entries in order.
func random(r *rand.Rand, value string) []api.Entry {
	m := mem.New()
	for range r.IntN(12) {
		x := api.Entry{Key: make([]byte, r.IntN(3)), Seq: r.Uint64N(6), Kind: byte(1 + r.IntN(2))}
		for i := range x.Key {
			x.Key[i] = byte(97 + r.IntN(2))
		}
		if x.Kind == api.Put {
			x.Value = []byte(value)
		}
		m.Put(x)
	}
	return m.Range(nil, nil)
}

func TestRandomLists(t *testing.T) { // P11.1 to P11.4
	r := rand.New(rand.NewPCG(11, 1))
	for range 3000 {
		var lists [][]api.Entry
		for i := range r.IntN(7) {
			lists = append(lists, random(r, string(rune(65+i))))
		}
		merges(t, lists...)
		list := plainMerge(lists...)
		sees(t, list, r.Uint64N(7))
		keeps(t, list, r.IntN(2) == 0, chosen(r.IntN(64))...)
	}
}

// roomy is a copy of b with spare room that holds other bytes.
func roomy(b []byte) []byte {
	return append(slices.Clone(b), 0, 1, 2, 255)[:len(b)]
}

// roomyList is a copy of entries with spare room, also in the list itself.
func roomyList(list []api.Entry) []api.Entry {
	var out []api.Entry
	for _, x := range list {
		x.Key, x.Value = roomy(x.Key), roomy(x.Value)
		out = append(out, x)
	}
	return append(out, put("~", 1, "more"))[:len(list)]
}

// untouched looks whether a roomyList still is one of these entries.
func untouched(t *testing.T, what string, list, want []api.Entry) {
	t.Helper()
	for i, x := range list {
		if !same(x, want[i]) || !bytes.Equal(x.Key[:len(x.Key)+4][len(x.Key):], []byte{0, 1, 2, 255}) || !bytes.Equal(x.Value[:len(x.Value)+4][len(x.Value):], []byte{0, 1, 2, 255}) {
			t.Errorf("%s: the entry %d is changed: %v", what, i, x)
		}
	}
	if x := list[:len(list)+1][len(list)]; !same(x, put("~", 1, "more")) {
		t.Errorf("%s: the list's spare room is changed: %v", what, x)
	}
}

// fill writes over a list, its spare room too.
func fill(b []byte) {
	b = b[:cap(b)]
	for i := range b {
		b[i] = 77
	}
}

// apart writes over each list of an answer, one by one, and looks whether those that aren't written over yet stay.
func apart(t *testing.T, what string, got, want []api.Entry) {
	t.Helper()
	for i := range got {
		fill(got[i].Key)
		if !bytes.Equal(got[i].Value, want[i].Value) {
			t.Errorf("%s: key and value of the entry %d share memory", what, i)
		}
		fill(got[i].Value)
		if !sameAll(got[i+1:], want[i+1:]) {
			t.Errorf("%s: the entry %d shares memory with a later one", what, i)
		}
	}
	clear(got[:cap(got)])
}

func TestMemory(t *testing.T) { // P11.5
	wantA := []api.Entry{put("a", 9, "xyz"), gone("a", 5), put("b", 3, "uv"), put("bb", 3, "uv")}
	wantB := []api.Entry{put("a", 9, "other"), put("a", 7, "seven"), put("c", 1, "last")}
	all := plainMerge(wantA, wantB)
	a, b := roomyList(wantA), roomyList(wantB)
	times := []uint64{8, 2, 9, 4, 99}[:4]
	calls := map[string]func() ([]api.Entry, api.Errno){
		"Merge":          func() ([]api.Entry, api.Errno) { return Merge(a, b) },
		"Merge of one":   func() ([]api.Entry, api.Errno) { return Merge(a) },
		"Merge with nil": func() ([]api.Entry, api.Errno) { return Merge(nil, a, nil) },
		"Visible":        func() ([]api.Entry, api.Errno) { return Visible(a, 9) },
		"Keep":           func() ([]api.Entry, api.Errno) { return Keep(a, false, times...) },
		"Keep bottom":    func() ([]api.Entry, api.Errno) { return Keep(a, true, times...) },
	}
	for what, call := range calls {
		first, e1 := call()
		second, e2 := call()
		want := plainMerge(first)
		for i := range want {
			want[i].Key, want[i].Value = slices.Clone(want[i].Key), slices.Clone(want[i].Value)
		}
		if e1 != api.OK || e2 != api.OK || len(first) == 0 || !sameAll(first, second) {
			t.Fatalf("%s = %v, %v; and %v, %v", what, first, e1, second, e2)
		}
		apart(t, what, first, want)
		if !sameAll(second, want) {
			t.Errorf("%s: two answers share memory", what)
		}
		untouched(t, what, a, wantA)
		untouched(t, what, b, wantB)
		if !slices.Equal(times[:5], []uint64{8, 2, 9, 4, 99}) {
			t.Errorf("%s: the moments are changed: %v", what, times[:5])
		}
	}
	lists := [][]api.Entry{a, b, of(3)}[:2]
	merged, _ := Merge(lists...)
	s, _ := Open(lists...)
	if !sameAll(lists[0], wantA) || !sameAll(lists[1], wantB) || !sameAll(lists[:3][2], of(3)) {
		t.Errorf("the lists' list is changed: %v", lists[:3])
	}
	for _, list := range [][]api.Entry{a, b} {
		for _, x := range list {
			fill(x.Key)
			fill(x.Value)
		}
		clear(list[:cap(list)])
	}
	clear(lists[:3])
	if !sameAll(merged, all) {
		t.Errorf("Merge keeps what was handed in: %v", merged)
	}
	goesOn(t, s, all)
}

func TestMemoryOfStreams(t *testing.T) { // P11.5
	want := []api.Entry{put("a", 9, "xyz"), gone("a", 5), put("b", 3, "uv"), put("bb", 3, "uv"), put("bb", 2, "uv"), put("c", 1, "")}
	one, _ := Open(want)
	two, _ := Open(want)
	for i, x := range want {
		if string(x.Key) == "bb" && x.Seq == 3 {
			key := roomy([]byte("b\x00"))
			one.Seek(key)
			if !bytes.Equal(key[:6], []byte("b\x00\x00\x01\x02\xff")) {
				t.Errorf("Seek has changed its key")
			}
			fill(key)
		}
		got, ok := one.Next()
		if !ok || !same(got, x) {
			t.Fatalf("Next %d = %v, %v", i, got, ok)
		}
		fill(got.Key)
		if !bytes.Equal(got.Value, x.Value) {
			t.Errorf("Next %d: key and value share memory", i)
		}
		fill(got.Value)
	}
	goesOn(t, one, nil)
	goesOn(t, two, want)
}

func TestVeryMuch(t *testing.T) { // P1: what isn't needed isn't copied
	key, list := bytes.Repeat([]byte{7}, api.MaxKey), []api.Entry(nil)
	for i := range 1 << 17 {
		list = append(list, api.Entry{Key: key, Seq: uint64(1<<17 - i), Kind: api.Put})
	}
	var before, behind runtime.MemStats
	runtime.ReadMemStats(&before)
	seen, e := Visible(list, 1<<16)
	kept, e2 := Keep(list, true, 5, 6)
	runtime.ReadMemStats(&behind)
	if e != api.OK || e2 != api.OK || len(seen) != 1 || len(kept) != 3 {
		t.Errorf("Visible = %d, %v; Keep = %d, %v", len(seen), e, len(kept), e2)
	}
	if used := behind.TotalAlloc - before.TotalAlloc; used > 1<<20 {
		t.Errorf("%d bytes were taken", used)
	}
}

// entries reads a few of them from raw bytes, which may be out of order and out of form.
func entries(raw []byte) []api.Entry {
	var out []api.Entry
	for len(raw) >= 4 && len(out) < 12 {
		size := int(raw[0] % 4)
		x := api.Entry{Seq: uint64(raw[1] % 8), Kind: raw[2] % 4, Value: bytes.Repeat([]byte("v"), int(raw[3]%3))}
		raw = raw[4:]
		size = min(size, len(raw))
		x.Key, raw = raw[:size:size], raw[size:]
		out = append(out, x)
	}
	return out
}

// FuzzAny: each call as its plain reading, whatever is handed in.
func FuzzAny(f *testing.F) { // P1, P11.1 to P11.4
	f.Add([]byte{1, 5, 1, 1, 97, 1, 3, 2, 0, 97}, []byte{1, 5, 1, 2, 97}, []byte{2, 3, 1, 0, 97, 98}, uint64(4), uint64(6), true, []byte("aa"))
	f.Add([]byte{1, 3, 1, 1, 97, 1, 5, 2, 0, 97}, []byte{1, 5, 0, 2, 97}, []byte(nil), uint64(4), uint64(math.MaxUint64), false, []byte(nil))
	f.Fuzz(func(t *testing.T, a, b, c []byte, at, other uint64, bottom bool, key []byte) {
		lists := [][]api.Entry{entries(a), entries(b), entries(c)}
		if e := plainError(lists...); e != api.OK {
			refused(t, "fuzzed", e, lists...)
		} else {
			merges(t, lists...)
		}
		ordered := plainMerge(lists...)
		for _, list := range append(lists, ordered) {
			if e := plainError(list); e != api.OK {
				refused(t, "fuzzed", e, list)
				continue
			}
			for _, moment := range []uint64{at, at % 9, other, other % 9} {
				sees(t, list, moment)
			}
			keeps(t, list, bottom, at%9, other%9)
			keeps(t, list, !bottom, other, at)
			s, _ := Open(list)
			s.Seek(key)
			goesOn(t, s, slices.DeleteFunc(slices.Clone(list), func(x api.Entry) bool { return string(x.Key) < string(key) }))
		}
	})
}
