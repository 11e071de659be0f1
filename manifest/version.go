// Package manifest is layer 12: which tables an engine has, on which level, durably. See shared/doc/12-manifest.md.
package manifest

import (
	"bytes"
	"cmp"
	"slices"

	"caisson/api"
	"caisson/codec"
	"caisson/table"
)

// The levels of which something is said: on the first one tables may have keys between one another's.
const (
	firstLevel = 0
	lastLevel  = 3
)

// File is a table's number and level, with its Meta.
type File struct {
	table.Meta
	Num   uint64
	Level int
}

// own: copies that share no memory.
func own(files []File) []File {
	out := make([]File, 0, len(files))
	for _, f := range files {
		f.First, f.Last = bytes.Clone(f.First), bytes.Clone(f.Last)
		out = append(out, f)
	}
	return out
}

// order: how two files stand, below 0: a ahead of b.
func order(a, b File) int {
	switch {
	case a.Level != b.Level:
		return cmp.Compare(a.Level, b.Level)
	case a.Level == firstLevel:
		return cmp.Compare(b.Num, a.Num)
	}
	return codec.Cmp(a.First, b.First)
}

// Version: an engine's tables.
type Version struct {
	Files     []File
	Next, Seq uint64
}

// Right: is a version right?
func Right(v Version) bool {
	for i, f := range v.Files {
		alone := f.Num < v.Next && f.Level >= firstLevel && f.Level <= lastLevel && codec.Cmp(f.First, f.Last) <= 0
		if !alone || i > 0 && !follows(v.Files[i-1], f) {
			return false
		}
	}
	return !twice(v.Files)
}

// follows: may b be the next file behind a? Where no file's First is above its Last, this tells of all files that no keys touch.
func follows(a, b File) bool {
	apart := a.Level != b.Level || a.Level == firstLevel || codec.Cmp(a.Last, b.First) < 0
	return apart && order(a, b) < 0
}

// twice: have two files one number?
func twice(files []File) bool {
	seen := map[uint64]struct{}{}
	for _, f := range files {
		seen[f.Num] = struct{}{}
	}
	return len(seen) < len(files)
}

// Edit is a change of a version.
type Edit struct {
	Reset bool
	Add   []File
	Drop  []uint64
	Seq   uint64
}

// Apply: the version behind the edit.
func Apply(v Version, e Edit) (Version, api.Errno) {
	if !Right(v) {
		return Version{}, api.ErrForm
	}
	if e.Reset {
		v = Version{}
	}
	left := without(v.Files, e.Drop)
	if len(left)+len(e.Drop) != len(v.Files) { // not each number in Drop has taken a file away
		return Version{}, api.ErrNone
	}
	files := append(left, e.Add...)
	if twice(files) {
		return Version{}, api.ErrThere
	}
	slices.SortFunc(files, order)
	behind := Version{Files: files, Next: nextNum(v.Next, e.Add), Seq: e.Seq}
	if !Right(behind) {
		return Version{}, api.ErrForm
	}
	if e.Seq < v.Seq {
		return Version{}, api.ErrOld
	}
	behind.Files = own(files)
	return behind, api.OK
}

// without: a new list of the files that have none of these numbers.
func without(files []File, nums []uint64) []File {
	drop := map[uint64]struct{}{}
	for _, n := range nums {
		drop[n] = struct{}{}
	}
	var left []File
	for _, f := range files {
		if _, dropped := drop[f.Num]; !dropped {
			left = append(left, f)
		}
	}
	return left
}

// nextNum: the number that the next table gets, when these are there. (Above the greatest number of all there is none; no version with a file of that number is right.)
func nextNum(next uint64, files []File) uint64 {
	for _, f := range files {
		next = max(next, f.Num+1)
	}
	return next
}
