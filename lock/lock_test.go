package lock

import (
	"bytes"
	"fmt"
	"math"
	"math/rand/v2"
	"slices"
	"strings"
	"testing"

	"caisson/api"
	"caisson/codec"
)

// shared is a range that others may hold, too.
func shared(from, to string) api.Range { return api.Range{From: []byte(from), To: []byte(to)} }

// excl is a range for oneself alone.
func excl(from, to string) api.Range {
	return api.Range{From: []byte(from), To: []byte(to), Excl: true}
}

// txn is the transaction with this number.
func txn(n int) api.Txn { return api.Txn{Session: uint64(n), Seq: uint64(n % 3)} }

// txns are those with these numbers.
func txns(numbers ...int) []api.Txn {
	var out []api.Txn
	for _, n := range numbers {
		out = append(out, txn(n))
	}
	return out
}

// plain is a table by the words of the document.
type plain struct {
	came        []api.Txn
	held, asked map[api.Txn][]api.Range
	line        []api.Txn
}

func newPlain() *plain {
	return &plain{held: map[api.Txn][]api.Range{}, asked: map[api.Txn][]api.Range{}}
}

// has: does a key lie in a range?
func has(r api.Range, key []byte) bool {
	return string(key) >= string(r.From) && (len(r.To) == 0 || string(key) < string(r.To))
}

// plainClash: if two ranges have keys in common, the first of these is where one of them begins.
func plainClash(a, b []api.Range) bool {
	for _, x := range a {
		for _, y := range b {
			if (x.Excl || y.Excl) && (has(x, y.From) && has(y, y.From) || has(x, x.From) && has(y, x.From)) {
				return true
			}
		}
	}
	return false
}

// plainCheck are the errors of ranges, the least one.
func plainCheck(ranges []api.Range) api.Errno {
	e := api.OK
	if len(ranges) > 64 {
		return api.ErrSize
	}
	for _, r := range ranges {
		if len(r.From) > 1024 || len(r.To) > 1024 {
			return api.ErrSize
		}
		if len(r.To) > 0 && string(r.To) <= string(r.From) {
			e = api.ErrForm
		}
	}
	return e
}

// waitsFor: for whom one waits, in the order in which they came.
func (p *plain) waitsFor(x api.Txn) []api.Txn {
	place := slices.Index(p.line, x)
	if place < 0 {
		return nil
	}
	var out []api.Txn
	for _, y := range p.came {
		if y == x {
			continue
		}
		ahead := slices.Contains(p.line[:place], y)
		if plainClash(p.asked[x], p.held[y]) || ahead && plainClash(p.asked[x], p.asked[y]) {
			out = append(out, y)
		}
	}
	return out
}

// inCircles: who is part of a circle.
func (p *plain) inCircles() []api.Txn {
	n := len(p.came)
	way := make([][]bool, n)
	for i, x := range p.came {
		way[i] = make([]bool, n)
		for _, y := range p.waitsFor(x) {
			way[i][slices.Index(p.came, y)] = true
		}
	}
	for k := range n {
		for i := range n {
			for j := range n {
				way[i][j] = way[i][j] || way[i][k] && way[k][j]
			}
		}
	}
	var out []api.Txn
	for i, x := range p.came {
		if way[i][i] {
			out = append(out, x)
		}
	}
	return out
}

// leave: it waits no more.
func (p *plain) leave(x api.Txn) {
	p.line = slices.DeleteFunc(p.line, func(y api.Txn) bool { return y == x })
	delete(p.asked, x)
}

// going: those that can go do.
func (p *plain) going() []api.Txn {
	var out []api.Txn
	for _, x := range slices.Clone(p.line) {
		if len(p.waitsFor(x)) > 0 {
			continue
		}
		p.held[x] = append(p.held[x], p.asked[x]...)
		p.leave(x)
		out = append(out, x)
	}
	return out
}

func (p *plain) ask(x api.Txn, ranges []api.Range) (Result, api.Errno) {
	if e := plainCheck(ranges); e != api.OK {
		return Result{}, e
	}
	if slices.Contains(p.line, x) {
		return Result{}, api.ErrThere
	}
	if !slices.Contains(p.came, x) {
		p.came = append(p.came, x)
	}
	p.line = append(p.line, x)
	p.asked[x] = ranges
	if len(p.waitsFor(x)) == 0 {
		p.going()
		return Result{Status: Granted}, api.OK
	}
	out := Result{Status: Waiting}
	for in := p.inCircles(); len(in) > 0; in = p.inCircles() {
		last := in[len(in)-1]
		p.leave(last)
		out.Victims = append(out.Victims, last)
		if last == x {
			out.Status = Refused
		}
	}
	out.Granted = p.going()
	if slices.Contains(out.Granted, x) {
		out.Status = Granted
	}
	return out, api.OK
}

func (p *plain) release(x api.Txn) []api.Txn {
	p.leave(x)
	delete(p.held, x)
	p.came = slices.DeleteFunc(p.came, func(y api.Txn) bool { return y == x })
	return p.going()
}

func (p *plain) status(x api.Txn) int {
	switch {
	case !slices.Contains(p.came, x):
		return 0
	case slices.Contains(p.line, x):
		return 2
	}
	return 1
}

// alike: are these the same ranges?
func alike(a, b []api.Range) bool {
	return slices.EqualFunc(a, b, func(x, y api.Range) bool {
		return bytes.Equal(x.From, y.From) && bytes.Equal(x.To, y.To) && x.Excl == y.Excl
	})
}

// same: are these results alike?
func same(a, b Result) bool {
	return a.Status == b.Status && slices.Equal(a.Victims, b.Victims) && slices.Equal(a.Granted, b.Granted)
}

// everybody are the transactions that are asked for.
func everybody(n int) []api.Txn {
	out := []api.Txn{{}, {Session: math.MaxUint64, Seq: math.MaxUint64}, {Session: 1, Seq: 99}}
	for i := range n {
		out = append(out, txn(i))
	}
	return out
}

// agrees looks whether a table says what the plain one does.
func agrees(t *testing.T, what string, table *Table, p *plain) {
	t.Helper()
	if !slices.Equal(table.All(), p.came) || !slices.Equal(table.Queue(), p.line) {
		t.Fatalf("%s: All = %v, Queue = %v; want %v, %v", what, table.All(), table.Queue(), p.came, p.line)
	}
	for _, x := range everybody(12) {
		if got := table.Status(x); got != p.status(x) {
			t.Fatalf("%s: Status(%v) = %d; want %d", what, x, got, p.status(x))
		}
		if got := table.Held(x); !alike(got, p.held[x]) {
			t.Fatalf("%s: Held(%v) = %v; want %v", what, x, got, p.held[x])
		}
		if got := table.For(x); !slices.Equal(got, p.waitsFor(x)) {
			t.Fatalf("%s: For(%v) = %v; want %v", what, x, got, p.waitsFor(x))
		}
	}
}

// asks asks both tables.
func asks(t *testing.T, table *Table, p *plain, x api.Txn, ranges ...api.Range) Result {
	t.Helper()
	got, e := table.Ask(x, ranges...)
	want, e2 := p.ask(x, copied(ranges))
	if e != e2 || !same(got, want) {
		t.Fatalf("Ask(%v, %v) = %v, %v; want %v, %v", x, ranges, got, e, want, e2)
	}
	agrees(t, fmt.Sprintf("Ask(%v, %v)", x, ranges), table, p)
	return got
}

// releases releases it in both tables.
func releases(t *testing.T, table *Table, p *plain, x api.Txn) []api.Txn {
	t.Helper()
	got, want := table.Release(x), p.release(x)
	if !slices.Equal(got, want) {
		t.Fatalf("Release(%v) = %v; want %v", x, got, want)
	}
	agrees(t, fmt.Sprintf("Release(%v)", x), table, p)
	return got
}

// copied are ranges that share no memory with others.
func copied(ranges []api.Range) []api.Range {
	var out []api.Range
	for _, r := range ranges {
		out = append(out, api.Range{From: slices.Clone(r.From), To: slices.Clone(r.To), Excl: r.Excl})
	}
	return out
}

// stands looks, by what a table says alone, whether it is as it must be at each moment.
func stands(t *testing.T, table *Table) { // P16.2
	t.Helper()
	all, line := table.All(), table.Queue()
	for i, x := range all {
		for _, y := range all[:i] {
			if x == y || plainClash(table.Held(x), table.Held(y)) {
				t.Fatalf("%v and %v hold %v and %v", x, y, table.Held(x), table.Held(y))
			}
		}
		if got, want := table.Status(x) == Waiting, slices.Contains(line, x); got != want || table.Status(x) == Free {
			t.Fatalf("Status(%v) = %d; the queue is %v", x, table.Status(x), line)
		}
	}
	for i, x := range line {
		if len(table.For(x)) == 0 {
			t.Fatalf("%v waits, but for nobody", x)
		}
		if slices.Contains(line[:i], x) {
			t.Fatalf("%v waits twice", x)
		}
		seen := map[api.Txn]bool{}
		for next := table.For(x); len(next) > 0; next = next[1:] {
			if next[0] == x {
				t.Fatalf("%v waits in a circle", x)
			}
			if !seen[next[0]] {
				seen[next[0]] = true
				next = append(next, table.For(next[0])...)
			}
		}
	}
}

// drains looks whether all are released at last, when those that don't wait are, again and again.
func drains(t *testing.T, table *Table) { // P16.3
	t.Helper()
	for rounds := len(table.All()); len(table.All()) > 0; rounds-- {
		if rounds == 0 {
			t.Fatalf("there are still %v", table.All())
		}
		for _, x := range table.All() {
			if table.Status(x) != Waiting {
				table.Release(x)
				stands(t, table)
			}
		}
	}
	if len(table.Queue()) > 0 {
		t.Fatalf("of nobody there wait %v", table.Queue())
	}
}

// again is the table of a table's bytes.
func again(t *testing.T, table *Table) *Table {
	t.Helper()
	b := table.Encode()
	out, e := Decode(b)
	if out == nil || e != api.OK || !bytes.Equal(out.Encode(), b) {
		t.Fatalf("Decode(%v) = %v, %v", b, out, e)
	}
	return out
}

func TestExamples(t *testing.T) { // P16.1
	var table Table
	p := newPlain()
	if r := asks(t, &table, p, txn(1), shared("a", "c")); r.Status != Granted {
		t.Errorf("1: %v", r)
	}
	if r := asks(t, &table, p, txn(2), excl("b", "d")); r.Status != Waiting || !slices.Equal(table.For(txn(2)), txns(1)) {
		t.Errorf("2: %v", r)
	}
	if r := asks(t, &table, p, txn(3), shared("b", "c")); r.Status != Waiting || !slices.Equal(table.For(txn(3)), txns(2)) {
		t.Errorf("3: %v", r)
	}
	if got := releases(t, &table, p, txn(1)); !slices.Equal(got, txns(2)) {
		t.Errorf("Release(1) = %v", got)
	}
	if got := releases(t, &table, p, txn(2)); !slices.Equal(got, txns(3)) {
		t.Errorf("Release(2) = %v", got)
	}
	var second Table
	p = newPlain()
	asks(t, &second, p, txn(1), shared("a", "b"))
	asks(t, &second, p, txn(2), shared("a", "b"))
	if r := asks(t, &second, p, txn(1), excl("a", "b")); r.Status != Waiting || r.Victims != nil || r.Granted != nil || !slices.Equal(second.For(txn(1)), txns(2)) {
		t.Errorf("1: %v", r)
	}
	if r := asks(t, &second, p, txn(2), excl("a", "b")); r.Status != Refused || !slices.Equal(r.Victims, txns(2)) || r.Granted != nil {
		t.Errorf("2: %v", r)
	}
	if second.Status(txn(2)) != Granted || !alike(second.Held(txn(2)), []api.Range{shared("a", "b")}) {
		t.Errorf("who gave way: %d, %v", second.Status(txn(2)), second.Held(txn(2)))
	}
	if got := releases(t, &second, p, txn(2)); !slices.Equal(got, txns(1)) || !alike(second.Held(txn(1)), []api.Range{shared("a", "b"), excl("a", "b")}) {
		t.Errorf("Release(2) = %v; 1 holds %v", got, second.Held(txn(1)))
	}
}

func TestNobody(t *testing.T) { // P16.1: the zero table
	var table Table
	agrees(t, "the zero table", &table, newPlain())
	for _, x := range everybody(3) {
		releases(t, &table, newPlain(), x)
	}
	agrees(t, "the decoded zero table", again(t, &table), newPlain())
}

func TestNumbers(t *testing.T) {
	if Free != 0 || Granted != 1 || Waiting != 2 || Refused != 3 {
		t.Errorf("Free .. Refused = %d, %d, %d, %d", Free, Granted, Waiting, Refused)
	}
}

// long is a key of n bytes.
func long(n int) string { return strings.Repeat("k", n) }

func TestErrors(t *testing.T) { // P16.1
	many := func(n int) []api.Range {
		var out []api.Range
		for i := range n {
			out = append(out, excl(fmt.Sprintf("m%03d", i), fmt.Sprintf("m%03dx", i)))
		}
		return out
	}
	for what, c := range map[string]struct {
		ranges []api.Range
		want   api.Errno
	}{
		"64 ranges": {many(64), 0}, "65": {many(65), api.ErrSize}, "1000": {many(1000), api.ErrSize}, "65 alike": {slices.Repeat(many(1), 65), api.ErrSize}, "64 alike": {slices.Repeat(many(1), 64), 0},
		"a From of 1024": {[]api.Range{shared(long(1024), "")}, 0}, "of 1025": {[]api.Range{shared(long(1025), "")}, api.ErrSize}, "a To of 1024": {[]api.Range{excl("", long(1024))}, 0}, "To of 1025": {[]api.Range{excl("", long(1025))}, api.ErrSize}, "both of 1024": {[]api.Range{excl(long(1024), long(1023)+"l")}, 0},
		"a To below": {[]api.Range{shared("b", "a")}, api.ErrForm}, "a To alike": {[]api.Range{shared("b", "b")}, api.ErrForm}, "a To that is a beginning": {[]api.Range{shared("ba", "b")}, api.ErrForm}, "a From that is a beginning": {[]api.Range{shared("b", "b\x00")}, 0}, "a To below, 1024 long": {[]api.Range{shared(long(1024), long(1023))}, api.ErrForm},
		"a long From, and a To below": {[]api.Range{shared("z", "a"), shared(long(1025), "")}, api.ErrSize}, "a long To below": {[]api.Range{shared("z", long(1025))}, api.ErrSize}, "a bad one behind a good one": {[]api.Range{shared("a", "b"), shared("b", "a")}, api.ErrForm}, "65 with a bad one": {append(many(64), shared("b", "a")), api.ErrSize},
		"all keys": {[]api.Range{{}}, 0}, "all keys, empty lists": {[]api.Range{{From: []byte{}, To: []byte{}, Excl: true}}, 0}, "to the end": {[]api.Range{shared("\xff\xff", "")}, 0}, "none": {nil, 0}, "an empty list": {[]api.Range{}, 0},
	} {
		if plainCheck(c.ranges) != c.want {
			t.Fatalf("%s: the test is wrong", what)
		}
		var free, waits Table // of the second one 2 waits
		p, q := newPlain(), newPlain()
		asks(t, &free, p, txn(2), c.ranges...)
		asks(t, &waits, q, txn(1), excl("a", "b"))
		asks(t, &waits, q, txn(2), shared("a", "b"))
		if e := cmpError(c.want, api.ErrThere); true {
			if r, got := waits.Ask(txn(2), c.ranges...); got != e || !same(r, Result{}) {
				t.Errorf("%s: Ask of one that waits = %v, %v; want %v", what, r, got, e)
			}
		}
		agrees(t, what, &waits, q)
		if c.want != api.OK && free.Status(txn(2)) != Free {
			t.Errorf("%s: whose Ask was refused is known", what)
		}
		before := waits.Encode()
		waits.Ask(txn(3), append(slices.Clone(c.ranges), shared("b", "a"))...)
		if !bytes.Equal(waits.Encode(), before) {
			t.Errorf("%s: what was refused has changed the table", what)
		}
	}
}

// cmpError is the lesser of two errors, if both are.
func cmpError(a, b api.Errno) api.Errno {
	if a == api.OK || b < a {
		return b
	}
	return a
}

func TestClashes(t *testing.T) { // P16.1: who clashes with whom
	ends := []string{"", "\x00", "a", "a\x00", "aa", "b", "\xff"}
	var ranges []api.Range
	for _, from := range ends {
		for _, to := range ends {
			for _, r := range []api.Range{shared(from, to), excl(from, to)} {
				if plainCheck([]api.Range{r}) == api.OK {
					ranges = append(ranges, r)
				}
			}
		}
	}
	keys := append([]string{"\x00\x00", "A", "a\x00\x00", "a\x01", "ab", "az", "c", "\xff\x00"}, ends...)
	counts := map[int]int{}
	for _, a := range ranges {
		for _, b := range ranges {
			common := slices.ContainsFunc(keys, func(k string) bool { return has(a, []byte(k)) && has(b, []byte(k)) })
			want := Granted
			if common && (a.Excl || b.Excl) {
				want = Waiting
			}
			var table, lined Table
			p, q := newPlain(), newPlain()
			asks(t, &table, p, txn(1), a)
			if r := asks(t, &table, p, txn(2), b); r.Status != want {
				t.Fatalf("1 holds %v, 2 asks for %v: %v", a, b, r)
			}
			if r := asks(t, &table, p, txn(1), a); r.Status != Granted { // 2, if it waits, gives way
				t.Fatalf("1 asks for what it holds: %v", r)
			}
			counts[want]++
			asks(t, &lined, q, txn(0), excl("", "")) // so that the others clash in the queue alone
			asks(t, &lined, q, txn(1), a)
			asks(t, &lined, q, txn(2), b)
			if got := slices.Contains(lined.For(txn(2)), txn(1)); got != (want == Waiting) {
				t.Fatalf("1 asked for %v, 2 asks for %v: waits: %v", a, b, got)
			}
		}
	}
	if counts[Granted] < 100 || counts[Waiting] < 100 {
		t.Errorf("so many clashed: %v", counts)
	}
}

func TestAskForNothing(t *testing.T) { // P16.1
	var table Table
	p := newPlain()
	asks(t, &table, p, txn(1), excl("", ""))
	asks(t, &table, p, txn(2), shared("a", "b"))
	if r := asks(t, &table, p, txn(3)); r.Status != Granted || table.Status(txn(3)) != Granted {
		t.Errorf("Ask for nothing = %v", r)
	}
	if r := asks(t, &table, p, txn(1)); r.Status != Granted {
		t.Errorf("Ask for nothing = %v", r)
	}
	if _, e := table.Ask(txn(2)); e != api.ErrThere {
		t.Errorf("Ask for nothing of one that waits = %v", e)
	}
	agrees(t, "decoded", again(t, &table), p)
	releases(t, &table, p, txn(3))
}

func TestOwnRanges(t *testing.T) { // P16.1: nobody clashes with itself; what it holds stands in the order in which it came to it
	var table Table
	p := newPlain()
	asks(t, &table, p, txn(1), shared("a", "c"), excl("b", "d"), shared("b", "c"))
	asks(t, &table, p, txn(1), excl("a", ""))
	asks(t, &table, p, txn(1), shared("a", "c"))
	asks(t, &table, p, txn(2), shared("a", "b"))
	if r := asks(t, &table, p, txn(1), excl("", "\x00")); r.Status != Granted {
		t.Errorf("%v", r)
	}
	want := []api.Range{shared("a", "c"), excl("b", "d"), shared("b", "c"), excl("a", ""), shared("a", "c"), excl("", "\x00")}
	if got := table.Held(txn(1)); !alike(got, want) {
		t.Errorf("Held = %v; want %v", got, want)
	}
	agrees(t, "decoded", again(t, &table), p)
}

func TestFairness(t *testing.T) { // P16.1: nobody goes past one ahead in the queue that clashes; others do
	var table Table
	p := newPlain()
	asks(t, &table, p, txn(1), shared("a", "b"))
	asks(t, &table, p, txn(2), excl("a", "b"))
	if r := asks(t, &table, p, txn(3), shared("a", "b")); r.Status != Waiting || !slices.Equal(table.For(txn(3)), txns(2)) {
		t.Errorf("behind an Excl: %v", r)
	}
	if r := asks(t, &table, p, txn(4), excl("b", "c")); r.Status != Granted {
		t.Errorf("beside the queue: %v", r)
	}
	asks(t, &table, p, txn(5), shared("a", "c"))
	if !slices.Equal(table.For(txn(5)), txns(2, 4)) {
		t.Errorf("For(5) = %v", table.For(txn(5)))
	}
	if got := releases(t, &table, p, txn(2)); !slices.Equal(got, txns(3)) {
		t.Errorf("one that waits is released: %v", got)
	}
	if got := releases(t, &table, p, txn(4)); !slices.Equal(got, txns(5)) {
		t.Errorf("Release(4) = %v", got)
	}
	asks(t, &table, p, txn(6), excl("", ""))
	asks(t, &table, p, txn(7), shared("x", "y"))
	asks(t, &table, p, txn(8), shared("a", "b"))
	releases(t, &table, p, txn(5))
	releases(t, &table, p, txn(3))
	if got := releases(t, &table, p, txn(1)); !slices.Equal(got, txns(6)) {
		t.Errorf("Release(1) = %v", got)
	}
	if got := releases(t, &table, p, txn(6)); !slices.Equal(got, txns(7, 8)) {
		t.Errorf("Release(6) = %v", got)
	}
}

func TestCircles(t *testing.T) { // P16.1: who gives way
	var three Table // 1 waits for 2, 2 for 3, 3 for 1: whoever closes the circle, 3 came last
	for closes := 1; closes <= 3; closes++ {
		three = Table{}
		p := newPlain()
		for n := 1; n <= 3; n++ {
			asks(t, &three, p, txn(n), excl(fmt.Sprint(n), fmt.Sprint(n)+"x"))
		}
		var r Result
		for step := range 3 {
			n := (closes+step)%3 + 1
			next := n%3 + 1
			r = asks(t, &three, p, txn(n), shared(fmt.Sprint(next), fmt.Sprint(next)+"x"))
		}
		want := Result{Status: Waiting, Victims: txns(3)}
		if closes == 3 {
			want.Status = Refused
		}
		if !same(r, want) {
			t.Errorf("%d closes the circle: %v", closes, r)
		}
		if got := releases(t, &three, p, txn(3)); !slices.Equal(got, txns(2)) {
			t.Errorf("Release(3) = %v", got)
		}
		drains(t, &three)
	}
	var after Table // who gives way frees whom it was in the way of: also the one that asks
	p := newPlain()
	asks(t, &after, p, txn(1), shared("a", "b"))
	asks(t, &after, p, txn(2), shared("c", "d"))
	asks(t, &after, p, txn(2), excl("a", "d"))
	asks(t, &after, p, txn(3), shared("cc", "d"))
	if r := asks(t, &after, p, txn(1), shared("c", "d")); !same(r, Result{Status: Granted, Victims: txns(2), Granted: txns(3, 1)}) {
		t.Errorf("the one ahead gives way: %v", r)
	}
	if after.Status(txn(2)) != Granted || !alike(after.Held(txn(2)), []api.Range{shared("c", "d")}) {
		t.Errorf("who gave way holds %v", after.Held(txn(2)))
	}
	var again Table // who came anew came last
	p = newPlain()
	asks(t, &again, p, txn(1), shared("a", "b"))
	asks(t, &again, p, txn(2), shared("a", "b"))
	releases(t, &again, p, txn(1))
	asks(t, &again, p, txn(1), shared("a", "b"))
	asks(t, &again, p, txn(1), excl("a", "b"))
	if r := asks(t, &again, p, txn(2), excl("a", "b")); !same(r, Result{Status: Waiting, Victims: txns(1)}) {
		t.Errorf("1 came anew: %v", r)
	}
	var several Table // several circles, and two that give way
	p = newPlain()
	asks(t, &several, p, txn(1), shared("a", "b"))
	for n := 2; n <= 4; n++ {
		asks(t, &several, p, txn(n), excl(fmt.Sprint(n), fmt.Sprint(n)+"x"))
		asks(t, &several, p, txn(n), excl("a", "a\x00"))
	}
	if r := asks(t, &several, p, txn(1), shared("2", "5")); !same(r, Result{Status: Waiting, Victims: txns(4, 3, 2)}) {
		t.Errorf("several circles: %v", r)
	}
	drains(t, &several)
}

// anyRanges are some ranges that often clash.
func anyRanges(r *rand.Rand, bad bool) []api.Range {
	ends := []string{"", "a", "a\x00", "b", "c", "d", "e", "\xff"}
	var out []api.Range
	for range r.IntN(3) + min(r.IntN(5), 1) {
		i, j := r.IntN(len(ends)-1), r.IntN(len(ends))
		if j <= i && !bad {
			j = min(i+1+r.IntN(2), len(ends)) % len(ends)
		}
		out = append(out, api.Range{From: []byte(ends[i]), To: []byte(ends[j]), Excl: r.IntN(3) == 0})
	}
	return out
}

// play does a script's calls, each of two bytes, on a table and on a plain one. What it saw is counted.
func play(t *testing.T, script []byte, seen map[string]int) {
	table, p := &Table{}, newPlain()
	for i := 0; i+1 < len(script); i += 2 {
		op, arg := script[i], script[i+1]
		r := rand.New(rand.NewPCG(uint64(arg), uint64(i)))
		x := txn(int(op/16) % 12)
		switch {
		case op%16 < 11:
			got := asks(t, table, p, x, anyRanges(r, op%16 == 10)...)
			seen[fmt.Sprint("status ", got.Status)]++
			seen[fmt.Sprint("victims ", min(len(got.Victims), 2))]++
			if len(got.Victims) > 0 {
				seen[fmt.Sprintf("victims, then %d; others granted: %v", got.Status, len(got.Granted) > 0)]++
			}
		case op%16 < 14:
			got := releases(t, table, p, x)
			seen[fmt.Sprint("released ", min(len(got), 2))]++
		default:
			table = again(t, table)
			agrees(t, "decoded", table, p)
		}
		stands(t, table)
	}
	drains(t, again(t, table))
	drains(t, table)
}

func TestAnyCalls(t *testing.T) { // P16.1, P16.2, P16.3, P16.4
	seen := map[string]int{}
	for seed := range uint64(400) {
		r := rand.New(rand.NewPCG(seed, 16))
		script := make([]byte, 2*60)
		for i := range script {
			script[i] = byte(r.Uint32())
		}
		play(t, script, seen)
	}
	for _, want := range []string{"status 0", "status 1", "status 2", "status 3", "victims 0", "victims 1", "victims 2", "released 0", "released 1", "released 2", "victims, then 1; others granted: true", "victims, then 2; others granted: false", "victims, then 2; others granted: true", "victims, then 3; others granted: false", "victims, then 3; others granted: true"} {
		if seen[want] < 3 {
			t.Errorf("%q was seen %d times", want, seen[want])
		}
	}
}

// FuzzPlay: as TestAnyCalls, with scripts that are looked for.
func FuzzPlay(f *testing.F) { // P1, P16.1, P16.2, P16.3, P16.4
	f.Add([]byte{16, 1, 32, 2, 48, 3, 15, 0, 27, 0, 43, 0})
	f.Fuzz(func(t *testing.T, script []byte) { play(t, script[:min(len(script), 2*60)], map[string]int{}) })
}

// crowd is a table in which many wait.
func crowd() *Table {
	t := &Table{}
	for n := range 9 {
		t.Ask(txn(n), shared(fmt.Sprint(n), ""), excl("", fmt.Sprint("\x00", n)))
		t.Ask(txn(n), shared(fmt.Sprint(n), ""), excl("z", ""))
	}
	t.Ask(api.Txn{Session: math.MaxUint64, Seq: math.MaxUint64})
	t.Ask(api.Txn{Session: 1 << 40}, shared(long(1024), ""), excl("z", long(1000)))
	return t
}

// accepts looks whether any bytes are a table's that stands, or are refused.
func accepts(t *testing.T, b []byte) bool {
	t.Helper()
	table, e := Decode(b)
	if e != api.OK {
		if table != nil || e != api.ErrForm && e != api.ErrEnd {
			t.Fatalf("Decode(%v) = %v, %v", b, table, e)
		}
		return false
	}
	if !bytes.Equal(table.Encode(), b) {
		t.Fatalf("Decode(%v) = %v, whose bytes are others", b, table)
	}
	stands(t, table)
	for _, x := range table.All() {
		if plainCheck(table.Held(x)[:min(64, len(table.Held(x)))]) != api.OK {
			t.Fatalf("Decode(%v): %v holds %v", b, x, table.Held(x))
		}
		table.Ask(x, excl("", ""))
		stands(t, table)
	}
	again(t, table)
	drains(t, table)
	return true
}

func TestSpoiltBytes(t *testing.T) { // P16.4
	b := crowd().Encode()
	if !accepts(t, b) {
		t.Fatalf("Decode(%v) refuses", b)
	}
	refused := 0
	for at := range b {
		if !accepts(t, b[:at]) {
			refused++
		}
		if short := append(slices.Clone(b[:at]), b[at+1:]...); !accepts(t, short) {
			refused++
		}
		for _, flip := range []byte{1, 2, 3, 128, 255} {
			spoilt := slices.Clone(b)
			spoilt[at] ^= flip
			if !accepts(t, spoilt) {
				refused++
			}
		}
	}
	if refused < 4*len(b) {
		t.Errorf("of seven ways to spoil each of %d bytes %d are refused", len(b), refused)
	}
	for _, more := range [][]byte{{0}, {1, 0}, {255}, b} {
		accepts(t, append(slices.Clone(b), more...))
	}
	for _, other := range [][]byte{nil, {}, {0}, {1}, {1, 0}, {0, 0}, {128}, {255, 255, 255, 255, 255, 255, 255, 255, 255, 1}, []byte("junk"), make([]byte, 1000), bytes.Repeat([]byte{255}, 1000)} {
		accepts(t, other)
	}
	if table, e := Decode(nil); table != nil || e != api.ErrEnd {
		t.Errorf("Decode of nothing = %v, %v", table, e)
	}
}

func TestTablesThatCannotBe(t *testing.T) { // P16.2, P16.4: their bytes are refused
	one, two := api.Txn{Session: 1}, api.Txn{Session: 2}
	ab := []api.Range{excl("a", "b")}
	cd := []api.Range{excl("c", "d")}
	for what, owners := range map[string][]*owner{
		"the same twice":              {{Txn: one}, {Txn: one}},
		"two hold what clashes":       {{Txn: one, held: ab}, {Txn: two, held: []api.Range{shared("a", "")}}},
		"one waits for nobody":        {{Txn: one}, {Txn: two, asked: ab, turn: 1}},
		"one waits for itself":        {{Txn: one}, {Txn: two, held: ab, asked: ab, turn: 1}},
		"one waits for one behind it": {{Txn: one, asked: ab, turn: 1}, {Txn: two, asked: ab, turn: 2}},
		"a circle":                    {{Txn: one, held: ab, asked: cd, turn: 1}, {Txn: two, held: cd, asked: ab, turn: 2}},
		"one waits with nothing":      {{Txn: one, held: ab}, {Txn: two, turn: 1}},
		"one doesn't wait, but asks":  {{Txn: one, held: ab}, {Txn: two, asked: ab}},
		"one asks for too many":       {{Txn: one, held: ab}, {Txn: two, asked: slices.Repeat(ab, 65), turn: 1}},
		"one holds what is too long":  {{Txn: one, held: []api.Range{shared(long(1025), "")}}},
		"one holds nothing":           {{Txn: one, held: []api.Range{shared("b", "b")}}},
		"one asks for a To below":     {{Txn: one, held: ab}, {Txn: two, asked: []api.Range{shared("b", "a"), ab[0]}, turn: 1}},
		"one asks for a long To":      {{Txn: one, held: ab}, {Txn: two, asked: []api.Range{excl("", long(1025))}, turn: 1}},
	} {
		table := &Table{owners: owners, turns: 2}
		if got, e := Decode(table.Encode()); got != nil || e != api.ErrForm {
			t.Errorf("%s: Decode = %v, %v", what, got, e)
		}
	}
	for what, owners := range map[string][]*owner{
		"one waits for another one": {{Txn: one, held: ab}, {Txn: two, asked: ab, turn: 1}},
		"one asks for 64":           {{Txn: one, held: ab}, {Txn: two, asked: slices.Repeat(ab, 64), turn: 1}},
		"one holds 1000":            {{Txn: one, held: slices.Repeat(ab, 1000)}},
		"keys of 1024 bytes":        {{Txn: one, held: []api.Range{shared(long(1024), long(1023)+"l")}}},
	} {
		table := &Table{owners: owners, turns: 2}
		if !accepts(t, table.Encode()) {
			t.Errorf("%s: Decode refuses", what)
		}
	}
	whole := codec.Frame(codec.PutU(1), codec.PutU(2), nil, nil)
	ranges := func(parts ...[]byte) []byte {
		return codec.Frame(codec.PutU(1), codec.PutU(2), codec.Frame(codec.Frame(parts...)), nil)
	}
	for what, b := range map[string][]byte{
		"a place that is none": codec.Frame(codec.PutU(1), whole), "a place twice": codec.Frame([]byte{0, 0}, whole), "a place of one that waits twice": codec.Frame([]byte{1, 1}, ranges(nil, nil, []byte{1}), codec.Frame(codec.PutU(3), codec.PutU(0), nil, codec.Frame(codec.Frame(nil, nil, nil)))), "a place that doesn't end": codec.Frame([]byte{128}, whole), "a place written too long": codec.Frame([]byte{128, 0}, whole), "a great place": codec.Frame(codec.PutU(math.MaxUint64), whole),
		"three parts": codec.Frame(nil, codec.Frame(codec.PutU(1), codec.PutU(2), nil)), "five parts": codec.Frame(nil, codec.Frame(codec.PutU(1), codec.PutU(2), nil, nil, nil)), "more behind a number": codec.Frame(nil, codec.Frame([]byte{1, 0}, codec.PutU(2), nil, nil)), "no number": codec.Frame(nil, codec.Frame(nil, codec.PutU(2), nil, nil)), "more behind the second number": codec.Frame(nil, codec.Frame(codec.PutU(1), []byte{1, 0}, nil, nil)),
		"an Excl of 2": codec.Frame(nil, ranges(nil, nil, []byte{2})), "an Excl of 0": codec.Frame(nil, ranges(nil, nil, []byte{0})), "an Excl of two bytes": codec.Frame(nil, ranges(nil, nil, []byte{1, 1})), "two parts of a range": codec.Frame(nil, ranges(nil, nil)), "four parts of a range": codec.Frame(nil, ranges(nil, nil, nil, nil)), "ranges that end": codec.Frame(nil, codec.Frame(codec.PutU(1), codec.PutU(2), []byte{5}, nil)), "asked ranges that end": codec.Frame(nil, codec.Frame(codec.PutU(1), codec.PutU(2), nil, []byte{5})), "a range that ends": codec.Frame(nil, codec.Frame(codec.PutU(1), codec.PutU(2), codec.Frame([]byte{7}), nil)),
	} {
		if accepts(t, b) {
			t.Errorf("%s: Decode takes it", what)
		}
	}
	if !accepts(t, codec.Frame(nil, whole)) || !accepts(t, codec.Frame(nil, ranges(nil, nil, []byte{1}))) {
		t.Errorf("Decode refuses what is in form")
	}
}

// FuzzDecode: any bytes.
func FuzzDecode(f *testing.F) { // P1, P16.4
	f.Add(crowd().Encode())
	f.Add((&Table{}).Encode())
	f.Fuzz(func(t *testing.T, b []byte) {
		if len(b) < 2000 {
			accepts(t, b)
		}
	})
}

func TestAsFromBytes(t *testing.T) { // P16.4: from then on both behave alike, each for itself
	table := crowd()
	other := again(t, table)
	before := table.Encode()
	for _, x := range slices.Concat(table.All(), txns(100, 101)) {
		r1, e1 := table.Ask(x, excl("5", ""), shared("", "4"))
		r2, e2 := other.Ask(x, excl("5", ""), shared("", "4"))
		if e1 != e2 || !same(r1, r2) || !slices.Equal(table.Release(txn(4)), other.Release(txn(4))) || !bytes.Equal(table.Encode(), other.Encode()) {
			t.Fatalf("%v: %v, %v; decoded %v, %v", x, r1, e1, r2, e2)
		}
	}
	for _, x := range table.All() {
		if !slices.Equal(table.Release(x), other.Release(x)) {
			t.Fatalf("Release(%v) isn't alike", x)
		}
	}
	third, _ := Decode(before)
	fourth, _ := Decode(before)
	for _, x := range third.All() {
		third.Release(x)
	}
	if !bytes.Equal(fourth.Encode(), before) {
		t.Errorf("two decoded tables aren't apart")
	}
}

func TestManyWait(t *testing.T) { // P16.3: in long queues, too
	table := &Table{}
	for n := range 300 {
		table.Ask(txn(n), shared("a", "b"))
	}
	for n := range 300 {
		r, e := table.Ask(txn(n), excl("a", "b"))
		want := Result{Status: Refused, Victims: txns(n)}
		if n == 0 {
			want = Result{Status: Waiting}
		}
		if e != api.OK || !same(r, want) {
			t.Fatalf("Ask of %d = %v, %v", n, r, e)
		}
	}
	for n := range 300 {
		table.Ask(txn(n+1000), excl("a", "b"), shared("c", ""))
	}
	for n := range 300 {
		if got, want := table.Release(txn(n)), txns(); n != 298 && n != 299 && !slices.Equal(got, want) {
			t.Fatalf("Release(%d) = %v", n, got)
		}
	}
	table = again(t, table)
	for n := range 299 {
		if got := table.Release(txn(n + 1000)); !slices.Equal(got, txns(n+1001)) {
			t.Fatalf("Release = %v", got)
		}
	}
	table.Release(txn(1299))
	if len(table.All()) > 0 {
		t.Errorf("All = %v", table.All())
	}
}

func TestAnyArguments(t *testing.T) { // P1
	lists := [][]byte{nil, {}, {0}, []byte("a"), []byte("b"), {255}, make([]byte, 1024), make([]byte, 1025), make([]byte, 100000)}
	numbers := []uint64{0, 1, 1 << 63, math.MaxUint64}
	table := &Table{}
	for _, session := range numbers {
		for _, seq := range numbers {
			x := api.Txn{Session: session, Seq: seq}
			for _, from := range lists {
				for _, to := range lists {
					r := api.Range{From: from, To: to, Excl: seq%2 == 0}
					table.Ask(x, r)
					table.Ask(x, slices.Repeat([]api.Range{r}, 65)...)
					if (&Table{}).Release(x) != nil {
						t.Errorf("Release of one that isn't known")
					}
				}
			}
			table.Ask(x)
			table.Status(x)
			table.Held(x)
			table.For(x)
			stands(t, table)
			again(t, table)
		}
	}
	drains(t, table)
}

// roomy is a copy with spare room.
func roomy(b []byte) []byte { return append(slices.Clone(b), 0, 1, 2, 255)[:len(b)] }

// fill writes over a list, its spare room too.
func fill(b []byte) {
	b = b[:cap(b)]
	for i := range b {
		b[i] = 77
	}
}

func TestMemoryOfArguments(t *testing.T) { // P16.5
	table, p := &Table{}, newPlain()
	for n := range 6 {
		was := []api.Range{shared(fmt.Sprint(n%4), ""), excl(fmt.Sprint("a", n%2), "z")}
		var ranges []api.Range
		for _, r := range was {
			ranges = append(ranges, api.Range{From: roomy(r.From), To: roomy(r.To), Excl: r.Excl})
		}
		ranges = append(ranges, excl("spare", "room"))[:2]
		asks(t, table, p, txn(n), ranges...)
		for i, r := range ranges {
			if !bytes.Equal(r.From[:len(r.From)+4], append(was[i].From, 0, 1, 2, 255)) || !bytes.Equal(r.To[:len(r.To)+4], append(was[i].To, 0, 1, 2, 255)) || r.Excl != was[i].Excl {
				t.Fatalf("Ask has changed %v", r)
			}
			fill(r.From)
			fill(r.To)
		}
		if r := ranges[:3][2]; !alike([]api.Range{r}, []api.Range{excl("spare", "room")}) {
			t.Fatalf("Ask has changed its spare room: %v", r)
		}
		clear(ranges[:cap(ranges)])
		agrees(t, "arguments written over", table, p)
	}
	b := roomy(table.Encode())
	was := slices.Clone(b[:len(b)+4])
	other, e := Decode(b)
	if e != api.OK || !bytes.Equal(b[:len(b)+4], was) {
		t.Fatalf("Decode has changed its bytes, or answers %v", e)
	}
	fill(b)
	agrees(t, "bytes written over", other, p)
	for n := range 6 {
		releases(t, table, p, txn(n))
	}
}

func TestMemoryOfAnswers(t *testing.T) { // P16.5
	table, p := &Table{}, newPlain()
	for n := range 4 {
		asks(t, table, p, txn(n), shared("a", "b"), excl(fmt.Sprint(n), fmt.Sprint(n, "x")))
	}
	for n := range 6 {
		r := asks(t, table, p, txn(n), excl(fmt.Sprint((n+1)%4), ""), shared("\x00", "\x01"))
		clear(r.Victims[:cap(r.Victims)])
		clear(r.Granted[:cap(r.Granted)])
		agrees(t, "a Result written over", table, p)
	}
	for _, x := range everybody(6) {
		one, two := table.Held(x), table.Held(x)
		for i := range one {
			fill(one[i].From)
			if !bytes.Equal(one[i].To, two[i].To) {
				t.Fatalf("a range's ends share memory")
			}
			fill(one[i].To)
			if !alike(one[i+1:], two[i+1:]) {
				t.Fatalf("two ranges share memory")
			}
		}
		clear(one[:cap(one)])
		if !alike(two, p.held[x]) {
			t.Fatalf("two Helds share memory")
		}
		for _, list := range [][]api.Txn{table.For(x), table.All(), table.Queue()} {
			clear(list[:cap(list)])
		}
		agrees(t, "answers written over", table, p)
	}
	b, again := table.Encode(), table.Encode()
	was := slices.Clone(again)
	if fill(b); !bytes.Equal(again, was) {
		t.Errorf("two Encodes share memory")
	}
	agrees(t, "bytes written over", table, p)
	for n := range 6 {
		got := releases(t, table, p, txn(n))
		clear(got[:cap(got)])
		agrees(t, "a Release written over", table, p)
	}
}
