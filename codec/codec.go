// Package codec is layer 1: numbers, bytes and lists as bytes, in their order or short. See shared/doc/01-codec.md.
package codec

import (
	"bytes"

	"caisson/api"
)

// signBit is added to an int64, so that what is below 0 comes first among the uint64s.
const signBit = 1 << 63

// The second byte of each pair that begins with 0 in an OrdText. The end's is less than the escape's, so that a list comes ahead of what goes on with a 0.
const (
	textEnd    = 1
	textEscape = 255
)

// PutU: a number in groups of seven bits, the least first.
func PutU(n uint64) []byte { return appendU(nil, n) }

func appendU(out []byte, n uint64) []byte {
	for n >= 0x80 {
		out = append(out, byte(n)|0x80)
		n >>= 7
	}
	return append(out, byte(n))
}

// GetU: the number at a place, and the place behind it.
func GetU(b []byte, at int) (uint64, int, api.Errno) {
	if outside(b, at) {
		return 0, 0, api.ErrArg
	}
	var n uint64
	for i, c := range b[at:] {
		// Of the tenth group one bit alone is left; and if an eleventh one follows, then whatever it is, the number is too great or too long.
		if i == 9 && c > 1 {
			return 0, 0, api.ErrForm
		}
		n |= uint64(c&0x7f) << (7 * i)
		if c >= 0x80 {
			continue
		}
		if c == 0 && i > 0 {
			return 0, 0, api.ErrForm
		}
		return n, at + i + 1, api.OK
	}
	return 0, 0, api.ErrEnd
}

// outside: is the place neither in b nor just behind it?
func outside(b []byte, at int) bool { return at < 0 || at > len(b) }

// OrdU: eight bytes, the greatest first.
func OrdU(n uint64) []byte {
	out := make([]byte, 8)
	for i := range out {
		out[i] = byte(n >> (56 - 8*i))
	}
	return out
}

// OrdI: eight bytes, in the numbers' order.
func OrdI(n int64) []byte { return OrdU(uint64(n) + signBit) }

// GetOrdU: the number at a place, and the place behind it.
func GetOrdU(b []byte, at int) (uint64, int, api.Errno) {
	if outside(b, at) {
		return 0, 0, api.ErrArg
	}
	if len(b)-at < 8 {
		return 0, 0, api.ErrEnd
	}
	var n uint64
	for _, c := range b[at : at+8] {
		n = n<<8 | uint64(c)
	}
	return n, at + 8, api.OK
}

// GetOrdI: the number at a place, and the place behind it.
func GetOrdI(b []byte, at int) (int64, int, api.Errno) {
	n, next, e := GetOrdU(b, at)
	if e != api.OK {
		return 0, 0, e
	}
	return int64(n - signBit), next, api.OK
}

// OrdText: bytes with an end, in their order.
func OrdText(b []byte) []byte {
	out := make([]byte, 0, len(b)+2)
	for _, c := range b {
		out = append(out, c)
		if c == 0 {
			out = append(out, textEscape)
		}
	}
	return append(out, 0, textEnd)
}

// GetOrdText: the bytes at a place, and the place behind their end.
func GetOrdText(b []byte, at int) ([]byte, int, api.Errno) {
	if outside(b, at) {
		return nil, 0, api.ErrArg
	}
	var out []byte
	for i := at; i < len(b); i++ {
		if b[i] != 0 {
			out = append(out, b[i])
			continue
		}
		i++
		if i == len(b) {
			break
		}
		switch b[i] {
		case textEnd:
			return out, i + 1, api.OK
		case textEscape:
			out = append(out, 0)
		default:
			return nil, 0, api.ErrForm
		}
	}
	return nil, 0, api.ErrEnd
}

// Cmp: how two lists compare, byte by byte.
func Cmp(a, b []byte) int { return bytes.Compare(a, b) }

// Frame: each part with its length ahead.
func Frame(parts ...[]byte) []byte {
	var out []byte
	for _, p := range parts {
		out = appendU(out, uint64(len(p)))
		out = append(out, p...)
	}
	return out
}

// Parts: the parts whose frame b is.
func Parts(b []byte) ([][]byte, api.Errno) {
	var out [][]byte
	for at := 0; at < len(b); {
		n, next, e := GetU(b, at)
		if e != api.OK {
			return nil, e
		}
		if n > uint64(len(b)-next) {
			return nil, api.ErrEnd
		}
		at = next + int(n)
		out = append(out, bytes.Clone(b[next:at]))
	}
	return out, api.OK
}

// Next: the least list that is above all lists that begin with prefix; nil: there is none.
func Next(prefix []byte) []byte {
	size := len(prefix)
	for size > 0 && prefix[size-1] == 255 {
		size--
	}
	if size == 0 {
		return nil
	}
	out := bytes.Clone(prefix[:size])
	out[size-1]++
	return out
}
