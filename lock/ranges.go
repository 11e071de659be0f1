package lock

import (
	"bytes"
	"slices"

	"caisson/api"
	"caisson/codec"
)

// mostRanges is how many an Ask may have.
const mostRanges = 64

// check: the error of the ranges of an Ask.
func check(ranges []api.Range) api.Errno {
	tooLong := func(r api.Range) bool { return len(r.From) > api.MaxKey || len(r.To) > api.MaxKey }
	switch {
	case len(ranges) > mostRanges || slices.ContainsFunc(ranges, tooLong):
		return api.ErrSize
	case slices.ContainsFunc(ranges, isEmpty):
		return api.ErrForm
	}
	return api.OK
}

// isEmpty: does no key lie in it?
func isEmpty(r api.Range) bool { return !below(r.From, r.To) }

// below: is a key below the end of a range?
func below(key, to []byte) bool { return len(to) == 0 || codec.Cmp(key, to) < 0 }

// clash: does one of these ranges clash with one of those? (None of them is empty: so two have a key in common if each begins ahead of the other's end.)
func clash(these, those []api.Range) bool {
	return slices.ContainsFunc(these, func(a api.Range) bool {
		return slices.ContainsFunc(those, func(b api.Range) bool {
			return (a.Excl || b.Excl) && below(a.From, b.To) && below(b.From, a.To)
		})
	})
}

// own: copies that share no memory.
func own(ranges []api.Range) []api.Range {
	var out []api.Range
	for _, r := range ranges {
		out = append(out, api.Range{From: bytes.Clone(r.From), To: bytes.Clone(r.To), Excl: r.Excl})
	}
	return out
}
