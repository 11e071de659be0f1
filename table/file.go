package table

import (
	"bytes"
	"slices"

	"caisson/api"
	"caisson/block"
	"caisson/bloom"
	"caisson/codec"
	"caisson/crc"
	"caisson/mem"
)

const (
	every     = 4  // of the keys in a block each fourth one is written whole
	bitsAKey  = 10 // in the filter
	fileParts = 2  // the blocks, the filter
)

// inOrder: does each entry stand ahead of the next one?
func inOrder(list []api.Entry) bool {
	for i := 1; i < len(list); i++ {
		if !mem.Less(list[i-1], list[i]) {
			return false
		}
	}
	return true
}

// cut: the entries of each block.
func cut(size int, list []api.Entry) [][]api.Entry {
	var groups [][]api.Entry
	begin, sum := 0, 0
	for i, x := range list {
		sum += len(x.Key) + len(x.Value)
		if sum >= size {
			groups = append(groups, list[begin:i+1])
			begin, sum = i+1, 0
		}
	}
	if begin < len(list) {
		groups = append(groups, list[begin:])
	}
	return groups
}

// seal: the file whose blocks have these entries.
func seal(groups [][]api.Entry) ([]byte, api.Errno) {
	var blocks, keys [][]byte
	size := 0
	for _, group := range groups {
		b, e := block.Build(every, group...)
		if e != api.OK {
			return nil, e
		}
		size += len(b)
		if size > api.MaxRecord { // it is known already, and all the rest might be very much
			return nil, api.ErrSize
		}
		blocks = append(blocks, b)
		for _, x := range group {
			keys = append(keys, x.Key)
		}
	}
	filter, e := bloom.Build(bitsAKey, slices.CompactFunc(keys, bytes.Equal)...)
	if e != api.OK {
		return nil, e
	}
	return crc.Seal(codec.Frame(codec.Frame(blocks...), filter))
}

// unseal: the entries of each block of a file. There may be files that tell them and aren't made of them.
func unseal(file []byte) ([][]api.Entry, api.Errno) {
	inside, _, e := crc.Open(file, 0)
	if e != api.OK {
		return nil, e
	}
	parts, e := codec.Parts(inside)
	if e != api.OK || len(parts) != fileParts {
		return nil, api.ErrForm
	}
	blocks, e := codec.Parts(parts[0])
	if e != api.OK {
		return nil, api.ErrForm
	}
	var groups [][]api.Entry
	for _, b := range blocks {
		group, e := block.Decode(b)
		if e != api.OK || len(group) == 0 {
			return nil, api.ErrForm
		}
		groups = append(groups, group)
	}
	return groups, api.OK
}
