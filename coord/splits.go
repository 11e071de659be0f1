package coord

import (
	"bytes"
	"slices"

	"caisson/api"
	"caisson/codec"
)

const mostSplit = 400 // bytes of a split

// Check: the error of splits.
func Check(splits [][]byte) api.Errno {
	if len(splits) >= api.MaxShards || slices.ContainsFunc(splits, func(s []byte) bool { return len(s) > mostSplit }) {
		return api.ErrSize
	}
	var ahead []byte // no split may be as this one, so the first one isn't empty
	for _, s := range splits {
		if codec.Cmp(ahead, s) >= 0 {
			return api.ErrForm
		}
		ahead = s
	}
	return api.OK
}

// Route: the shard of a key.
func Route(splits [][]byte, key []byte) int {
	above := slices.IndexFunc(splits, func(s []byte) bool { return codec.Cmp(s, key) > 0 })
	if above < 0 {
		return len(splits)
	}
	return above
}

// Home: the shard that keeps a transaction's decision.
func Home(splits [][]byte, x api.Txn) int {
	return int(x.Session % uint64(len(splits)+1))
}

// Piece is a part of a range that is one shard's.
type Piece struct {
	api.Range
	Shard int
}

// Cut: ranges cut at the splits.
func Cut(splits [][]byte, ranges ...api.Range) []Piece {
	var out []Piece
	for _, r := range ranges {
		out = append(out, cut(splits, r)...)
	}
	return out
}

// cut: the pieces of one range. Of splits that aren't in form, too, each piece has the keys that Route says are the shard's.
func cut(splits [][]byte, r api.Range) []Piece {
	var out []Piece
	from := r.From // what is ahead of it is in a piece
	for i, s := range splits {
		to := s
		if len(r.To) > 0 && codec.Cmp(r.To, s) < 0 {
			to = r.To
		}
		if codec.Cmp(from, to) < 0 {
			out = append(out, piece(from, to, r.Excl, i))
			from = to
		}
	}
	if len(r.To) == 0 || codec.Cmp(from, r.To) < 0 {
		out = append(out, piece(from, r.To, r.Excl, len(splits)))
	}
	return out
}

// piece: of its own memory.
func piece(from, to []byte, excl bool, i int) Piece {
	return Piece{Range: api.Range{From: bytes.Clone(from), To: bytes.Clone(to), Excl: excl}, Shard: i}
}
