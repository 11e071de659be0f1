// Package text is layer 2: texts by their runes: folded, in order, patterns, words. See shared/doc/02-text.md.
package text

import (
	"strings"
	"unicode/utf8"

	"caisson/api"
	"caisson/codec"
)

// replaced is the rune U+FFFD in its own three bytes: what a byte that isn't well-formed is told from.
const replaced = "\ufffd"

// Runes: a text's runes.
func Runes(s string) []rune {
	var out []rune
	for _, r := range s {
		out = append(out, r)
	}
	return out
}

// Of: the text of these runes.
func Of(list ...rune) string { return string(list) }

// Bad: the place of the first byte that isn't well-formed, and true.
func Bad(s string) (int, bool) {
	for i, r := range s {
		if r == utf8.RuneError && !strings.HasPrefix(s[i:], replaced) {
			return i, true
		}
	}
	return 0, false
}

// Len: how many runes.
func Len(s string) int {
	n := 0
	for range s {
		n++
	}
	return n
}

// Clip: its first n runes, with the bytes that they have in s.
func Clip(s string, n int) string {
	for i := range s {
		if n <= 0 {
			return strings.Clone(s[:i])
		}
		n--
	}
	return strings.Clone(s)
}

// Fold: the text of its runes, each folded.
func Fold(s string) string {
	var out strings.Builder
	for _, r := range s {
		out.WriteRune(foldRune(r))
	}
	return out.String()
}

// foldRune: the small letter of a Latin, Greek or Russian capital of the plain rows of Unicode; each other rune itself.
func foldRune(r rune) rune {
	switch {
	case r >= 'A' && r <= 'Z',
		r >= 0x00C0 && r <= 0x00DE && r != 0x00D7,
		r >= 0x0391 && r <= 0x03A9 && r != 0x03A2,
		r >= 0x0410 && r <= 0x042F:
		return r + 32
	}
	return r
}

// Key: bytes in the order of the folded texts, then of the texts.
func Key(s string) []byte {
	folded := codec.OrdText([]byte(Fold(s)))
	return append(folded, codec.OrdText([]byte(s))...)
}

// FromKey: the text whose key begins at a place, and the place behind it.
func FromKey(b []byte, at int) (string, int, api.Errno) {
	folded, middle, e := codec.GetOrdText(b, at)
	if e != api.OK {
		return "", 0, e
	}
	plain, next, e := codec.GetOrdText(b, middle)
	if e != api.OK {
		return "", 0, e
	}
	s := string(plain)
	if Fold(s) != string(folded) {
		return "", 0, api.ErrForm
	}
	return s, next, api.OK
}

// Like: does the whole text match the pattern?
func Like(s, pattern string) bool {
	have, want := Runes(Fold(s)), Runes(Fold(pattern))
	i, p := 0, 0
	// The last % met stands ahead of the place open in the pattern, and has taken what is ahead of taken in the text. To let it take more is all that may help when nothing matches: an earlier one's share can stay as short as it is.
	open, taken := -1, 0
	for i < len(have) {
		switch {
		case p < len(want) && want[p] == '%':
			p++
			open, taken = p, i
		case p < len(want) && (want[p] == '_' || want[p] == have[i]):
			i++
			p++
		case open >= 0:
			taken++
			i, p = taken, open
		default:
			return false
		}
	}
	for p < len(want) && want[p] == '%' {
		p++
	}
	return p == len(want)
}

// Words: its words, folded, in their order.
func Words(s string) []string {
	var out []string
	begin := -1
	for i, r := range s {
		switch {
		case inWord(r) && begin < 0:
			begin = i
		case !inWord(r) && begin >= 0:
			out = append(out, Fold(s[begin:i]))
			begin = -1
		}
	}
	if begin >= 0 {
		out = append(out, Fold(s[begin:]))
	}
	return out
}

// inWord: is it a letter or a digit, as words go?
func inWord(r rune) bool {
	return r >= 'a' && r <= 'z' || r >= 'A' && r <= 'Z' || r >= '0' && r <= '9' ||
		r >= 0x00C0 && r != utf8.RuneError
}

// Count: how often each word stands in all of them.
func Count(list ...string) map[string]int {
	times := map[string]int{}
	for _, s := range list {
		for _, w := range Words(s) {
			times[w]++
		}
	}
	return times
}
