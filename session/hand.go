package session

import (
	"caisson/api"
	"caisson/codec"
)

// hand is what is done with each part of a packet, so that one way through the parts serves both ways: a part is put behind some bytes, and stays as it is; or it is taken from bytes.
type hand struct {
	number func(*int)
	long   func(*uint64)
	flag   func(*bool)
	bytes  func(*[]byte)
	fine   func() bool // nothing is wrong so far
}

// putting: parts are put behind these bytes.
func putting(out *[]byte) hand {
	put := func(n uint64) { *out = append(*out, codec.PutU(n)...) }
	return hand{
		number: func(n *int) { put(uint64(*n)) },
		long:   func(n *uint64) { put(*n) },
		flag: func(is *bool) {
			if *is {
				put(1)
			} else {
				put(0)
			}
		},
		bytes: func(b *[]byte) {
			put(uint64(len(*b)))
			*out = append(*out, *b...)
		},
		fine: func() bool { return len(*out) <= api.MaxRecord }, // what is too long already is told no further
	}
}

// taking: parts are taken from these bytes; done tells the first thing that was wrong. Behind that all that is taken is zero.
func taking(b []byte) (h hand, done func() api.Errno) {
	wrong := api.OK
	take := func() uint64 {
		if wrong != api.OK {
			return 0
		}
		n, next, e := codec.GetU(b, 0)
		b, wrong = b[next:], e
		return n
	}
	h = hand{
		number: func(n *int) { *n = int(take()) },
		long:   func(n *uint64) { *n = take() },
		flag: func(is *bool) {
			n := take()
			*is = n == 1
			if n > 1 {
				wrong = api.ErrForm
			}
		},
		bytes: func(out *[]byte) {
			n := take()
			if n > uint64(len(b)) {
				wrong, n = api.ErrEnd, 0
			}
			*out = append([]byte(nil), b[:n]...)
			b = b[n:]
		},
		fine: func() bool { return wrong == api.OK },
	}
	done = func() api.Errno {
		if wrong == api.OK && len(b) > 0 {
			return api.ErrForm
		}
		return wrong
	}
	return h, done
}

func (h hand) numbers(list ...*int) {
	for _, n := range list {
		h.number(n)
	}
}

func (h hand) longs(list ...*uint64) {
	for _, n := range list {
		h.long(n)
	}
}

// each: how many things a list has, and each. When they are taken the list is empty at first; one at a time is made, as more may be told than there are.
func each[T any](h hand, list *[]T, one func(*T)) {
	n := uint64(len(*list))
	h.long(&n)
	for i := uint64(0); i < n && h.fine(); i++ {
		if i == uint64(len(*list)) {
			var x T
			*list = append(*list, x)
		}
		one(&(*list)[i])
	}
}
