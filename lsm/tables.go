package lsm

import (
	"bytes"
	"math"
	"slices"
	"strconv"
	"strings"

	"caisson/api"
	"caisson/codec"
	"caisson/manifest"
	"caisson/mem"
	"caisson/merge"
	"caisson/table"
)

const (
	tableEnd    = "t."    // stands behind the prefix in the names of the tables' files, ahead of their numbers
	newEnd      = ".new"  // stands behind the name of a table whose Write the disk died in (layer 10)
	manifestEnd = "m."    // stands behind the prefix in the names of the manifest's files (layer 12)
	deepest     = 3       // the last level
	mostTable   = 1000000 // of the weight of a table's entries, so that its file isn't above MaxRecord
	entryWeight = 64      // an entry's share in a file is less, but for its key and value
	tidyFactor  = 2       // the manifest's log is made short when it is so many times as long as it must be,
	tidySpare   = 200     // and so many bytes more
)

// placed is a table with its place in the manifest.
type placed struct {
	*table.Table
	num   uint64
	level int
}

// name: that of the file of the table with this number.
func (g *Engine) name(num uint64) string {
	return g.prefix + tableEnd + strconv.FormatUint(num, 10)
}

// number: which number a text is in decimal.
func number(s string) (uint64, bool) {
	n, err := strconv.ParseUint(s, 10, 64)
	if err != nil || strconv.FormatUint(n, 10) != s {
		return 0, false
	}
	return n, true
}

// load: the table of a file of the manifest. (A disk that lives can't refuse it but for its bytes.)
func (g *Engine) load(f manifest.File) (placed, api.Errno) {
	t, e := table.Open(g.Disk, g.name(f.Num))
	if e != api.OK || t.Count != f.Count || t.Size != f.Size || !bytes.Equal(t.First, f.First) || !bytes.Equal(t.Last, f.Last) {
		return placed{}, api.ErrForm
	}
	return placed{Table: t, num: f.Num, level: f.Level}, api.OK
}

// removeStrays: no file is left that has a table's name, or that of one that was being written, and is none.
func (g *Engine) removeStrays() api.Errno {
	begin := g.prefix + tableEnd
	for _, name := range g.List(begin) {
		digits, isNew := strings.CutSuffix(name[len(begin):], newEnd)
		num, ok := number(digits)
		if !ok || !isNew && slices.ContainsFunc(g.tables, func(t placed) bool { return t.num == num }) {
			continue
		}
		if e := g.Remove(name); e != api.OK {
			return e
		}
	}
	return api.OK
}

// settle: what is in memory is flushed, and levels are compacted, where it is time. Without room it is tried again behind the next batch.
func (g *Engine) settle() api.Errno {
	if g.recent.Size()+g.recent.Len() >= g.Mem { // a key without bytes counts, too
		if e := g.flush(); e == api.ErrDead {
			return e
		}
	}
	for level := range deepest {
		if !g.tooMuch(level) {
			continue
		}
		if e := g.compact(level); e == api.ErrDead {
			return e
		}
	}
	return api.OK
}

// tooMuch: has a level more than it may have? Of level 0 the tables are counted, of the others their bytes, as if a table of level 0 had what the memory may have.
func (g *Engine) tooMuch(level int) bool {
	if level == 0 {
		return g.Tables()[0] > g.Fan
	}
	most := times(g.Mem, g.Fan)
	for range level {
		most = times(most, g.Fan)
	}
	size := 0
	for _, t := range g.on(level) {
		size += t.Size
	}
	return size > most
}

// times: a product of numbers above 0, as far as an int goes.
func times(a, b int) int {
	if a > math.MaxInt/b {
		return math.MaxInt
	}
	return a * b
}

// on: the tables of a level.
func (g *Engine) on(level int) []placed {
	var out []placed
	for _, t := range g.tables {
		if t.level == level {
			out = append(out, t)
		}
	}
	return out
}

// flush: what is in memory goes into a table.
func (g *Engine) flush() api.Errno {
	list := g.recent.Range(nil, nil)
	if len(list) == 0 {
		return api.OK
	}
	first, last := list[0].Key, list[len(list)-1].Key
	needed, e := merge.Keep(list, !g.below(-1, first, last), g.moments()...)
	if e != api.OK {
		return e
	}
	chunks, _ := cut(needed, false)
	if e := g.replace(nil, 0, chunks, g.seq); e != api.OK {
		return e
	}
	g.recent = mem.New()
	return g.shorten()
}

// shorten: the log has no batch any more, as all of them are in tables. A record without a batch begins a new segment, as the log keeps its last one.
func (g *Engine) shorten() api.Errno {
	if e := g.log.Rotate(); e != api.OK {
		return e
	}
	index, e := g.log.Append(encode(g.seq, nil))
	if e == api.ErrFull { // the next flush drops what is left
		return api.OK
	}
	if e != api.OK {
		return e
	}
	if e := g.log.Sync(); e != api.OK {
		return e
	}
	return g.log.Drop(index)
}

// behind: the least key above this one.
func behind(key []byte) []byte { return append(bytes.Clone(key), 0) }

// below: has a deeper level than this one a table with keys from first to last, perhaps?
func (g *Engine) below(level int, first, last []byte) bool {
	return slices.ContainsFunc(g.tables, func(t placed) bool {
		return t.level > level && t.Overlaps(first, behind(last))
	})
}

// reach: the least and the greatest key of tables, at least one.
func reach(list []placed) (first, last []byte) {
	first, last = list[0].First, list[0].Last
	for _, t := range list {
		if codec.Cmp(t.First, first) < 0 {
			first = t.First
		}
		if codec.Cmp(t.Last, last) > 0 {
			last = t.Last
		}
	}
	return first, last
}

// compact: a level's tables go into the next one, with those there that have keys between theirs. They stay where they are as long as a key has more versions that are needed than a table can have: on the deeper levels all of a key's are in one.
func (g *Engine) compact(level int) api.Errno {
	merged := g.on(level)
	if len(merged) == 0 {
		return api.OK
	}
	first, last := reach(merged)
	for _, t := range g.on(level + 1) {
		if t.Overlaps(first, behind(last)) {
			merged = append(merged, t)
		}
	}
	first, last = reach(merged)
	var lists [][]api.Entry
	for _, t := range merged {
		lists = append(lists, t.Range(nil, nil))
	}
	all, e := merge.Merge(lists...)
	if e != api.OK {
		return e
	}
	needed, e := merge.Keep(all, !g.below(level+1, first, last), g.moments()...)
	if e != api.OK {
		return e
	}
	chunks, fit := cut(needed, true)
	if !fit {
		return api.OK
	}
	return g.replace(merged, level+1, chunks, g.files.Seq)
}

// cut: the entries of each table; false: where all of a key's versions must be in one table, they are too many.
func cut(list []api.Entry, wholeKeys bool) ([][]api.Entry, bool) {
	var chunks [][]api.Entry
	begin, sum := 0, 0
	for i := 0; i < len(list); {
		end, weight := unit(list, i, wholeKeys)
		if weight > mostTable {
			return nil, false
		}
		if sum+weight > mostTable {
			chunks = append(chunks, list[begin:i])
			begin, sum = i, 0
		}
		sum += weight
		i = end
	}
	if begin < len(list) {
		chunks = append(chunks, list[begin:])
	}
	return chunks, true
}

// unit: the end and the weight of what begins at a place of a list and mustn't be parted: the versions of its key, or (no wholeKeys) one entry.
func unit(list []api.Entry, at int, wholeKeys bool) (end, weight int) {
	for end = at; end < len(list); end++ {
		x := list[end]
		if end > at && !(wholeKeys && bytes.Equal(x.Key, list[at].Key)) {
			break
		}
		weight += len(x.Key) + len(x.Value) + entryWeight
	}
	return end, weight
}

// replace: tables with these entries, on this level, take the place of other ones; up to seq all is in tables then. ErrFull: nothing has changed.
func (g *Engine) replace(old []placed, level int, chunks [][]api.Entry, seq uint64) api.Errno {
	edit := manifest.Edit{Seq: seq}
	for _, t := range old {
		edit.Drop = append(edit.Drop, t.num)
	}
	added, e := g.place(level, chunks)
	for _, t := range added {
		edit.Add = append(edit.Add, manifest.File{Meta: t.Meta, Num: t.num, Level: level})
	}
	if e == api.OK {
		e = g.files.Commit(edit)
	}
	if e == api.ErrDead {
		return e
	}
	if e != api.OK { // there is no room, on the disk or in a record of the manifest's log
		if e := g.remove(added); e != api.OK {
			return e
		}
		return api.ErrFull
	}
	g.arrange(slices.Concat(g.tables, added))
	if e := g.remove(old); e != api.OK {
		return e
	}
	return g.tidy()
}

// place: tables with these entries, on the disk; beside an error those that are there. What comes first may be newer, so it has the greater number.
func (g *Engine) place(level int, chunks [][]api.Entry) ([]placed, api.Errno) {
	var out []placed
	num := g.files.Next + uint64(len(chunks))
	for _, list := range chunks {
		num--
		meta, e := table.Write(g.Disk, g.name(num), g.Block, list...)
		if e != api.OK {
			return out, e
		}
		t, e := g.load(manifest.File{Meta: meta, Num: num, Level: level})
		if e != api.OK {
			return out, e
		}
		out = append(out, t)
	}
	return out, api.OK
}

// remove: the files of tables are gone.
func (g *Engine) remove(list []placed) api.Errno {
	for _, t := range list {
		if e := g.Remove(g.name(t.num)); e != api.OK {
			return e
		}
	}
	return api.OK
}

// arrange: of these tables those that the manifest has, in its order. (They are put into a new list: where the disk dies later, the old one counts.)
func (g *Engine) arrange(all []placed) {
	byNum := map[uint64]placed{}
	for _, t := range all {
		byNum[t.num] = t
	}
	var tables []placed
	for _, f := range g.files.Files {
		tables = append(tables, byNum[f.Num])
	}
	g.tables = tables
}

// tidy: the manifest's log is made short, if it is long. Without room it stays so.
func (g *Engine) tidy() api.Errno {
	size := 0
	for _, name := range g.List(g.prefix + manifestEnd) {
		b, e := g.Read(name)
		if e != api.OK {
			return e
		}
		size += len(b)
	}
	if size <= tidyFactor*len(manifest.Encode(g.files.Whole()))+tidySpare {
		return api.OK
	}
	if e := g.files.Tidy(); e == api.ErrDead {
		return e
	}
	return api.OK
}
