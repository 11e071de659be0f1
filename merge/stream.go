package merge

import (
	"math"
	"sort"

	"caisson/api"
	"caisson/mem"
)

// Stream is a way through several lists at once. The zero one is at its end.
type Stream struct {
	rest []api.Entry // what lies ahead
}

// Open: at the beginning.
func Open(lists ...[]api.Entry) (*Stream, api.Errno) {
	all, e := Merge(lists...)
	if e != api.OK {
		return nil, e
	}
	return &Stream{rest: all}, api.OK
}

// Next: the next entry.
func (s *Stream) Next() (api.Entry, bool) {
	if len(s.rest) == 0 {
		return api.Entry{}, false
	}
	next := s.rest[0] // it needn't be copied: the stream never comes back to it
	s.rest = s.rest[1:]
	return next, true
}

// Seek: to the first entry whose key isn't below, never back.
func (s *Stream) Seek(key []byte) {
	newest := api.Entry{Key: key, Seq: math.MaxUint64} // no version of the key stands ahead of it
	s.rest = s.rest[sort.Search(len(s.rest), func(i int) bool { return !mem.Less(s.rest[i], newest) }):]
}
