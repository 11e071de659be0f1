package coord

import (
	"bytes"
	"fmt"
	"math"
	"slices"
	"strings"
	"testing"

	"caisson/api"
)

// at are splits.
func at(list ...string) [][]byte {
	var out [][]byte
	for _, s := range list {
		out = append(out, []byte(s))
	}
	return out
}

// between is a range.
func between(from, to string, excl bool) api.Range {
	return api.Range{From: []byte(from), To: []byte(to), Excl: excl}
}

func TestCheck(t *testing.T) { // P23.1
	long := func(n int) string { return string(bytes.Repeat([]byte{7}, n)) }
	for _, c := range []struct {
		splits [][]byte
		want   api.Errno
	}{
		{nil, api.OK}, {at("a"), api.OK}, {at("a", "b"), api.OK}, {at("\x00", "a", "a\x00"), api.OK}, {at("a", "b", "c"), api.OK},
		{at("a", "b", "c", "d"), api.ErrSize}, {at("d", "c", "b", "a"), api.ErrSize}, {at("", "", "", ""), api.ErrSize}, {make([][]byte, 1000), api.ErrSize},
		{at(long(400)), api.OK}, {at(long(399), long(400)), api.OK}, {at(long(401)), api.ErrSize}, {at("a", "b", long(401)), api.ErrSize}, {at("z", long(401)), api.ErrSize}, {at("", long(401)), api.ErrSize},
		{at(""), api.ErrForm}, {[][]byte{nil}, api.ErrForm}, {at("", "a"), api.ErrForm}, {at("a", ""), api.ErrForm}, {at("a", "a"), api.ErrForm}, {at("b", "a"), api.ErrForm}, {at("a", "c", "b"), api.ErrForm}, {at("a", "b", "b"), api.ErrForm}, {at("a\x00", "a"), api.ErrForm},
	} {
		if got := Check(c.splits); got != c.want {
			t.Errorf("Check(%.20q) = %v; want %v", c.splits, got, c.want)
		}
	}
}

// routed is the shard of a key, by the words of the document.
func routed(splits [][]byte, key string) int {
	n := 0
	for n < len(splits) && string(splits[n]) <= key {
		n++
	}
	return n
}

// someKeys are keys around the splits that tests have.
var someKeys = []string{"", "\x00", "a", "a\x00", "a\x00\x00", "b", "ba", "c", "c\x00", "d", "m", "z", "\xff", "\xff\xff"}

// someSplits are in form and not.
var someSplits = [][][]byte{nil, at("a"), at("m"), at("a", "c"), at("a", "a\x00", "b"), at("\x00", "b", "\xff"), at("b", "m", "z"), at("m", "a"), at("b", "b"), at("", "b"), at("c", "", "b", "a", "d"), at("")}

func TestRoute(t *testing.T) { // P23.1
	for _, splits := range someSplits {
		for _, key := range someKeys {
			if got, want := Route(splits, []byte(key)), routed(splits, key); got != want {
				t.Errorf("Route(%q, %q) = %d; want %d", splits, key, got, want)
			}
		}
	}
	for key, want := range map[string]int{"a": 0, "l\xff": 0, "m": 1, "m\x00": 1, "z": 1, "": 0} {
		if got := Route(at("m"), []byte(key)); got != want {
			t.Errorf("Route(%q) = %d; want %d", key, got, want)
		}
	}
	if Route(nil, nil) != 0 || Route(nil, []byte("a")) != 0 || Route(at("a", "b", "c"), []byte("z")) != 3 || Route(at("m", "a"), []byte("b")) != 0 || Route(at("a", "z", "b"), []byte("c")) != 1 {
		t.Errorf("Route of splits at their ends, or that aren't in form")
	}
}

// pieces are those of one range, by the words of the document: key by key.
func pieces(splits [][]byte, r api.Range) []Piece {
	var out []Piece
	for shard := range len(splits) + 1 {
		var piece *Piece
		for _, key := range someKeys {
			in := string(r.From) <= key && (len(r.To) == 0 || key < string(r.To)) && routed(splits, key) == shard
			switch {
			case in && piece == nil:
				piece = &Piece{Range: between(key, "", r.Excl), Shard: shard}
			case !in && piece != nil && len(piece.To) == 0:
				piece.To = []byte(key)
			}
		}
		if piece != nil {
			out = append(out, *piece)
		}
	}
	return out
}

// toldRange and toldPieces are ranges and pieces in words.
func toldRange(r api.Range) string {
	out := fmt.Sprintf("[%q, %q)", r.From, r.To)
	if r.Excl {
		out += " alone"
	}
	return out
}

func toldPieces(list []Piece) string {
	var out []string
	for _, p := range list {
		out = append(out, fmt.Sprintf("%s of %d", toldRange(p.Range), p.Shard))
	}
	return strings.Join(out, "; ")
}

func samePiece(a, b Piece) bool { return a.Shard == b.Shard && sameRange(a.Range, b.Range) }

func sameRange(a, b api.Range) bool {
	return bytes.Equal(a.From, b.From) && bytes.Equal(a.To, b.To) && a.Excl == b.Excl
}

func TestCut(t *testing.T) { // P23.1
	var all []api.Range
	for i, from := range someKeys {
		for _, to := range append(someKeys[1:], "") {
			all = append(all, between(from, to, i%2 == 0))
		}
	}
	for _, splits := range someSplits {
		var whole []Piece
		for _, r := range all {
			got, want := Cut(splits, r), pieces(splits, r)
			if !slices.EqualFunc(got, want, samePiece) {
				t.Fatalf("Cut(%q, %s) = %s; want %s", splits, toldRange(r), toldPieces(got), toldPieces(want))
			}
			whole = append(whole, want...)
		}
		if got := Cut(splits, all...); !slices.EqualFunc(got, whole, samePiece) {
			t.Errorf("Cut(%q) of all ranges = %s", splits, toldPieces(got))
		}
	}
	if got := Cut(at("m")); got != nil {
		t.Errorf("Cut of no ranges = %s", toldPieces(got))
	}
	if got := Cut(at("m"), between("b", "b", false), between("z", "a", true), between("a", "\x00", true)); got != nil {
		t.Errorf("Cut of ranges without keys = %s", toldPieces(got))
	}
	got := toldPieces(Cut(at("m"), between("a", "z", true), between("z", "", false), between("b", "m", false)))
	if want := `["a", "m") alone of 0; ["m", "z") alone of 1; ["z", "") of 1; ["b", "m") of 0`; got != want {
		t.Errorf("Cut = %s; want %s", got, want)
	}
}

func TestHome(t *testing.T) { // P23.1
	for _, c := range []struct {
		splits  [][]byte
		session uint64
		want    int
	}{
		{nil, 0, 0}, {nil, 7, 0}, {at("m"), 3, 1}, {at("m"), 4, 0}, {at("a", "b"), 5, 2}, {at("a", "b", "c"), 7, 3}, {at("a", "b", "c"), 8, 0}, {at("a", "b"), math.MaxUint64, 0}, {at("m"), math.MaxUint64, 1}, {at("a", "b", "c", "d"), 1<<63 + 3, 1},
	} {
		if got := Home(c.splits, api.Txn{Session: c.session, Seq: 1}); got != c.want {
			t.Errorf("Home(%q, %d) = %d; want %d", c.splits, c.session, got, c.want)
		}
	}
}
