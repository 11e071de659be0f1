package disk

import (
	"bytes"
	"math"
	"math/rand/v2"
	"slices"
	"strings"
	"testing"
	"unsafe"

	"caisson/api"
)

// plainFile is a file of a plainDisk.
type plainFile struct {
	name       string
	safe, tail []byte
}

// plainDisk is a disk by the words of the document, written as plainly as may be: its files in a list, by rising names; arms is below 0 while it isn't armed.
type plainDisk struct {
	files []plainFile
	room  int
	arms  int
	dead  bool
}

func (p *plainDisk) place(name string) (int, bool) {
	return slices.BinarySearchFunc(p.files, name, func(f plainFile, name string) int { return strings.Compare(f.name, name) })
}

func (p *plainDisk) used() int {
	n := 0
	for _, f := range p.files {
		n += len(f.safe) + len(f.tail)
	}
	return n
}

// turning does a turning call that would answer e; killing is what it does of it when it kills the disk.
func (p *plainDisk) turning(e api.Errno, do, killing func()) api.Errno {
	switch {
	case p.dead:
		return api.ErrDead
	case e != api.OK:
		return e
	case p.arms == 0:
		killing()
		p.dead, p.arms = true, -1
		return api.ErrDead
	case p.arms > 0:
		p.arms--
	}
	do()
	return api.OK
}

func nothing() {}

func (p *plainDisk) append(name string, b []byte) api.Errno {
	do := func() {
		i, there := p.place(name)
		if !there {
			p.files = slices.Insert(p.files, i, plainFile{name: name})
		}
		p.files[i].tail = slices.Concat(p.files[i].tail, b)
	}
	if p.used()+len(b) > p.room {
		return p.turning(api.ErrFull, nothing, nothing)
	}
	return p.turning(api.OK, do, do)
}

func (p *plainDisk) sync(name string) api.Errno {
	i, there := p.place(name)
	if !there {
		return p.turning(api.ErrNone, nothing, nothing)
	}
	return p.turning(api.OK, func() { p.files[i].safe, p.files[i].tail = slices.Concat(p.files[i].safe, p.files[i].tail), nil }, nothing)
}

func (p *plainDisk) rename(from, to string) api.Errno {
	i, there := p.place(from)
	if !there {
		return p.turning(api.ErrNone, nothing, nothing)
	}
	return p.turning(api.OK, func() {
		moved := p.files[i]
		p.files = slices.Delete(p.files, i, i+1)
		j, taken := p.place(to)
		if taken {
			p.files = slices.Delete(p.files, j, j+1)
		}
		moved.name = to
		p.files = slices.Insert(p.files, j, moved)
	}, nothing)
}

func (p *plainDisk) remove(name string) api.Errno {
	i, there := p.place(name)
	if !there {
		return p.turning(api.ErrNone, nothing, nothing)
	}
	return p.turning(api.OK, func() { p.files = slices.Delete(p.files, i, i+1) }, nothing)
}

func (p *plainDisk) cut(name string, size int) api.Errno {
	i, there := p.place(name)
	var all []byte
	if there {
		all = slices.Concat(p.files[i].safe, p.files[i].tail)
	}
	switch {
	case size < 0 || there && size > len(all):
		return p.turning(api.ErrArg, nothing, nothing)
	case !there:
		return p.turning(api.ErrNone, nothing, nothing)
	}
	return p.turning(api.OK, func() { p.files[i].safe, p.files[i].tail = all[:size], nil }, nothing)
}

func (p *plainDisk) arm(n int) {
	if !p.dead {
		p.arms = max(n, -1)
	}
}

func (p *plainDisk) crash(keeps ...int) {
	n := 0
	for i, f := range p.files {
		if len(f.tail) == 0 {
			continue
		}
		keep := 0
		if len(keeps) > 0 && keeps[n%len(keeps)] > 0 {
			keep = keeps[n%len(keeps)] % (len(f.tail) + 1)
		}
		p.files[i].safe, p.files[i].tail = slices.Concat(f.safe, f.tail[:keep]), nil
		n++
	}
	p.dead, p.arms = false, -1
}

func (p *plainDisk) twin() *plainDisk {
	other := *p
	other.files = slices.Clone(p.files)
	return &other
}

// agree looks whether a disk answers what the plain one says.
func agree(t *testing.T, d *Disk, p *plainDisk, behind string) {
	t.Helper()
	if d.Dead() != p.dead || d.Used() != p.used() {
		t.Fatalf("%s: dead %v, used %d; want %v, %d", behind, d.Dead(), d.Used(), p.dead, p.used())
	}
	for _, prefix := range []string{"", "a", "aa", "b", "x"} {
		var want []string
		for _, f := range p.files {
			if !p.dead && strings.HasPrefix(f.name, prefix) {
				want = append(want, f.name)
			}
		}
		if got := d.List(prefix); !slices.Equal(got, want) {
			t.Fatalf("%s: List(%q) = %q; want %q", behind, prefix, got, want)
		}
	}
	for _, name := range names {
		var want []byte
		wantE := api.ErrNone
		if i, there := p.place(name); p.dead {
			wantE = api.ErrDead
		} else if there {
			want, wantE = slices.Concat(p.files[i].safe, p.files[i].tail), api.OK
		}
		if got, e := d.Read(name); !bytes.Equal(got, want) || e != wantE {
			t.Fatalf("%s: Read(%q) = %v, %v; want %v, %v", behind, name, got, e, want, wantE)
		}
	}
}

var names = []string{"", "a", "aa", "ab", "b", "\xff\x00"}

// play does a script's calls, three bytes each, on a disk and on the plain one; sometimes it goes on with a twin, and looks whether the other one stays as it was.
func play(t *testing.T, d *Disk, p *plainDisk, script []byte) {
	t.Helper()
	for ; len(script) >= 3; script = script[3:] {
		name, other, n := names[int(script[1])%len(names)], names[int(script[2])%len(names)], int(int8(script[2]))
		var got, want api.Errno
		var call string
		switch script[0] % 16 {
		case 0, 1, 2, 3, 4:
			b := bytes.Repeat([]byte{script[1] ^ script[2]}, max(n, -n)/8)
			call, got, want = "Append", d.Append(name, b), p.append(name, b)
		case 5, 6:
			call, got, want = "Sync", d.Sync(name), p.sync(name)
		case 7, 8:
			call, got, want = "Rename", d.Rename(name, other), p.rename(name, other)
		case 9:
			call, got, want = "Remove", d.Remove(name), p.remove(name)
		case 10, 11:
			call, got, want = "Cut", d.Cut(name, n/4), p.cut(name, n/4)
		case 12:
			call = "Arm"
			d.Arm(n / 16)
			p.arm(n / 16)
		case 13, 14:
			keeps := []int{n, int(script[1]), n * 7}[:int(script[1])%4]
			call = "Crash"
			d.Crash(keeps...)
			p.crash(keeps...)
		case 15:
			call = "Twin"
			left, leftPlain, right, rightPlain := d, p, d.Twin(), p.twin()
			if n < 0 {
				left, leftPlain, right, rightPlain = right, rightPlain, left, leftPlain
			}
			begin := script[3:min(len(script), 3+3*4)]
			script = script[len(begin):]
			play(t, left, leftPlain, begin)
			agree(t, right, rightPlain, "what was done to a twin")
			play(t, right, rightPlain, begin)
			agree(t, left, leftPlain, "what was done to a twin later")
			d, p = right, rightPlain
		}
		if got != want {
			t.Fatalf("%s(%q, %q or %d) = %v; want %v", call, name, other, n, got, want)
		}
		agree(t, d, p, call)
	}
}

func TestAnyCalls(t *testing.T) { // P4.1, P4.2, P4.3
	for seed := range uint64(600) {
		r := rand.New(rand.NewPCG(seed, 4))
		script := make([]byte, 3*200)
		for i := range script {
			script[i] = byte(r.Uint32())
		}
		room := []int{0, 7, 40, 200, 1 << 30}[seed%5]
		play(t, New(room), &plainDisk{room: room, arms: -1}, script)
		play(t, &Disk{}, &plainDisk{arms: -1}, script[:60])
	}
}

// FuzzAny: as TestAnyCalls, with scripts that are looked for.
func FuzzAny(f *testing.F) { // P1, P4.1, P4.2, P4.3
	f.Add([]byte{0, 1, 40, 12, 0, 0, 0, 4, 17, 13, 1, 5, 15, 0, 128, 7, 1, 4, 9, 1, 0}, 100)
	f.Add([]byte{10, 1, 255, 5, 0, 0, 0, 1, 9, 10, 1, 4}, -1)
	f.Fuzz(func(t *testing.T, script []byte, room int) {
		play(t, New(room), &plainDisk{room: max(room, 0), arms: -1}, script[:min(len(script), 3*300)])
	})
}

// holds looks whether a file has just these bytes.
func holds(t *testing.T, d *Disk, name string, want ...byte) {
	t.Helper()
	if b, e := d.Read(name); !slices.Equal(b, want) || e != api.OK {
		t.Errorf("Read(%q) = %v, %v; want %v", name, b, e, want)
	}
}

// answers looks what a call answered.
func answers(t *testing.T, call string, got, want api.Errno) {
	t.Helper()
	if got != want {
		t.Errorf("%s = %v; want %v", call, got, want)
	}
}

// halfSafe is a disk with the room 10 and the file "a" of 1 2 3 4 5, of which 1 2 are safe.
func halfSafe() *Disk {
	d := New(10)
	d.Append("a", []byte{1, 2})
	d.Sync("a")
	d.Append("a", []byte{3, 4, 5})
	return d
}

func TestCrash(t *testing.T) { // P4.2
	for _, c := range []struct {
		keeps []int
		want  []byte
	}{
		{nil, []byte{1, 2}}, {[]int{0}, []byte{1, 2}}, {[]int{2}, []byte{1, 2, 3, 4}}, {[]int{3}, []byte{1, 2, 3, 4, 5}}, {[]int{4}, []byte{1, 2}},
		{[]int{7}, []byte{1, 2, 3, 4, 5}}, {[]int{-1}, []byte{1, 2}}, {[]int{math.MinInt}, []byte{1, 2}}, {[]int{math.MaxInt}, []byte{1, 2, 3, 4, 5}}, {[]int{1, 2, 3}, []byte{1, 2, 3}},
	} {
		d := halfSafe()
		d.Crash(c.keeps...)
		holds(t, d, "a", c.want...)
		d.Crash() // what was kept is safe
		holds(t, d, "a", c.want...)
		if d.Used() != len(c.want) {
			t.Errorf("Crash(%v): Used() = %d", c.keeps, d.Used())
		}
	}
}

func TestCrashOfFiles(t *testing.T) { // P4.2
	d := New(100)
	for _, name := range []string{"d", "b", "e", "c", "a"} { // they are taken by their names, and those without a tail are passed over
		d.Append(name, []byte{1, 2, 3})
	}
	d.Sync("b")
	d.Append("f", nil)
	d.Crash(1, 0)
	holds(t, d, "a", 1)
	holds(t, d, "b", 1, 2, 3)
	holds(t, d, "c")
	holds(t, d, "d", 1)
	holds(t, d, "e")
	holds(t, d, "f")
	if d.Used() != 5 || len(d.List("")) != 6 {
		t.Errorf("Used() = %d, List = %q", d.Used(), d.List(""))
	}
}

// calls are all turning calls, each on halfSafe's disk, with what the disk has then.
func calls() map[string]func(*Disk) api.Errno {
	return map[string]func(*Disk) api.Errno{
		"Append":         func(d *Disk) api.Errno { return d.Append("a", []byte{6}) },
		"Append anew":    func(d *Disk) api.Errno { return d.Append("b", []byte{6}) },
		"Append nothing": func(d *Disk) api.Errno { return d.Append("b", nil) },
		"Sync":           func(d *Disk) api.Errno { return d.Sync("a") },
		"Rename":         func(d *Disk) api.Errno { return d.Rename("a", "b") },
		"Rename to same": func(d *Disk) api.Errno { return d.Rename("a", "a") },
		"Remove":         func(d *Disk) api.Errno { return d.Remove("a") },
		"Cut":            func(d *Disk) api.Errno { return d.Cut("a", 1) },
		"Cut to all":     func(d *Disk) api.Errno { return d.Cut("a", 5) },
	}
}

// failing are turning calls that answer another error, whatever the disk is armed with.
func failing() map[string]func(*Disk) (api.Errno, api.Errno) {
	return map[string]func(*Disk) (api.Errno, api.Errno){
		"Append":               func(d *Disk) (api.Errno, api.Errno) { return d.Append("b", make([]byte, 6)), api.ErrFull },
		"Sync":                 func(d *Disk) (api.Errno, api.Errno) { return d.Sync("b"), api.ErrNone },
		"Rename":               func(d *Disk) (api.Errno, api.Errno) { return d.Rename("b", "a"), api.ErrNone },
		"Rename to same":       func(d *Disk) (api.Errno, api.Errno) { return d.Rename("b", "b"), api.ErrNone },
		"Remove":               func(d *Disk) (api.Errno, api.Errno) { return d.Remove(""), api.ErrNone },
		"Cut":                  func(d *Disk) (api.Errno, api.Errno) { return d.Cut("b", 0), api.ErrNone },
		"Cut to more":          func(d *Disk) (api.Errno, api.Errno) { return d.Cut("a", 6), api.ErrArg },
		"Cut to the most":      func(d *Disk) (api.Errno, api.Errno) { return d.Cut("a", math.MaxInt), api.ErrArg },
		"Cut below 0":          func(d *Disk) (api.Errno, api.Errno) { return d.Cut("a", -1), api.ErrArg },
		"Cut to the least":     func(d *Disk) (api.Errno, api.Errno) { return d.Cut("a", math.MinInt), api.ErrArg },
		"Cut of none below 0":  func(d *Disk) (api.Errno, api.Errno) { return d.Cut("b", -1), api.ErrArg },
		"Cut of none to a lot": func(d *Disk) (api.Errno, api.Errno) { return d.Cut("b", math.MaxInt), api.ErrNone },
	}
}

func TestArmed(t *testing.T) { // P4.1
	for name, call := range calls() {
		d := halfSafe()
		d.Arm(1)
		done := halfSafe()
		answers(t, name+" of one armed with 1", call(d), api.OK)
		answers(t, name, call(done), api.OK)
		if !slices.Equal(d.List(""), done.List("")) || d.Used() != done.Used() || d.Dead() {
			t.Errorf("%s of one armed with 1 isn't done", name)
		}
		answers(t, "the call behind "+name, d.Append("z", nil), api.ErrDead)
		d = halfSafe()
		d.Arm(0)
		answers(t, name+" of one armed with 0", call(d), api.ErrDead)
		if !d.Dead() {
			t.Errorf("%s of one armed with 0 doesn't kill it", name)
		}
		d.Crash(math.MaxInt &^ 3) // of a tail of three bytes none
		if !strings.HasPrefix(name, "Append") {
			holds(t, d, "a", 1, 2)
			if len(d.List("")) != 1 {
				t.Errorf("%s of one armed with 0 leaves %q", name, d.List(""))
			}
		}
	}
}

func TestKillingAppend(t *testing.T) { // P4.1
	for _, keep := range []int{0, 1, 2} {
		d := New(10)
		d.Arm(1)
		answers(t, "Append", d.Append("a", []byte{1}), api.OK)
		answers(t, "Append that kills", d.Append("a", []byte{2}), api.ErrDead)
		if d.Used() != 2 {
			t.Errorf("Used() of a dead disk = %d", d.Used())
		}
		d.Crash(keep)
		holds(t, d, "a", []byte{1, 2}[:keep]...)
	}
	for _, b := range [][]byte{nil, {7}} {
		d := New(10)
		d.Arm(0)
		answers(t, "Append anew that kills", d.Append("b", b), api.ErrDead)
		d.Crash(1)
		holds(t, d, "b", b...)
	}
}

func TestFailingCalls(t *testing.T) { // P4.1
	for name, call := range failing() {
		for _, n := range []int{-1, 0, 1} {
			d, p := halfSafe(), &plainDisk{files: []plainFile{{"a", []byte{1, 2}, []byte{3, 4, 5}}}, room: 10, arms: max(n, -1)}
			d.Arm(n)
			for range 3 {
				got, want := call(d)
				answers(t, name, got, want)
				agree(t, d, p, name)
			}
			if n >= 0 { // it counts for nothing
				for range n {
					answers(t, "a call that is still done behind "+name, d.Sync("a"), api.OK)
				}
				answers(t, "a call too many behind "+name, d.Sync("a"), api.ErrDead)
			}
			d.Arm(-1)
			d.Arm(0)
			d.Append("a", nil)
			got, _ := call(d)
			answers(t, name+" of a dead disk", got, api.ErrDead)
		}
	}
}

func TestDead(t *testing.T) { // P4.1
	for name, call := range calls() {
		d := halfSafe()
		d.Arm(0)
		d.Sync("a")
		for _, n := range []int{-1, 0, 5} {
			d.Arm(n)
			answers(t, name+" of a dead disk", call(d), api.ErrDead)
		}
		for _, file := range []string{"a", "none"} {
			b, e := d.Read(file)
			if answers(t, "Read of a dead disk", e, api.ErrDead); len(b) != 0 {
				t.Errorf("Read of a dead disk: %v", b)
			}
		}
		if len(d.List("")) != 0 || d.Used() != 5 || !d.Dead() {
			t.Errorf("a dead disk: %q, %d, %v", d.List(""), d.Used(), d.Dead())
		}
		d.Crash()
		if holds(t, d, "a", 1, 2); d.Dead() {
			t.Errorf("Crash leaves it dead")
		}
		for range 9 {
			answers(t, "a call behind the crash", d.Sync("a"), api.OK)
		}
	}
}

func TestArm(t *testing.T) { // P4.1
	d := halfSafe()
	d.Arm(0)
	d.Arm(2) // the later one counts
	answers(t, "Sync", d.Sync("a"), api.OK)
	d.Arm(1)
	answers(t, "Sync", d.Sync("a"), api.OK)
	d.Arm(math.MinInt)
	answers(t, "Sync of one that isn't armed any more", d.Sync("a"), api.OK)
	d.Arm(0)
	d.Read("a")
	d.List("")
	d.Used()
	d.Twin()
	if d.Dead() {
		t.Errorf("a call that turns nothing kills")
	}
	d.Crash()
	answers(t, "Sync behind a crash", d.Sync("a"), api.OK)
	d.Arm(math.MaxInt)
	answers(t, "Sync of one armed with the most", d.Sync("a"), api.OK)
}

func TestRoom(t *testing.T) { // P4.1
	for _, d := range []*Disk{New(0), New(-1), New(math.MinInt), {}} {
		answers(t, "Append of nothing", d.Append("a", nil), api.OK)
		answers(t, "Append of a byte", d.Append("a", []byte{1}), api.ErrFull)
		answers(t, "Append of a byte anew", d.Append("b", []byte{1}), api.ErrFull)
		holds(t, d, "a")
		if !slices.Equal(d.List(""), []string{"a"}) {
			t.Errorf("List = %q", d.List(""))
		}
	}
	d := New(3)
	answers(t, "Append", d.Append("a", []byte{1, 2, 3}), api.OK)
	answers(t, "Append", d.Append("b", []byte{1}), api.ErrFull)
	answers(t, "Append", d.Append("b", nil), api.OK)
	answers(t, "Cut", d.Cut("a", 2), api.OK)
	answers(t, "Append", d.Append("b", []byte{4, 5}), api.ErrFull)
	answers(t, "Append", d.Append("b", []byte{4}), api.OK)
	answers(t, "Rename", d.Rename("a", "b"), api.OK)
	answers(t, "Append", d.Append("c", []byte{6, 7}), api.ErrFull)
	answers(t, "Append", d.Append("c", []byte{6}), api.OK)
	answers(t, "Remove", d.Remove("b"), api.OK)
	answers(t, "Append", d.Append("c", []byte{7, 8}), api.OK)
	answers(t, "Append", d.Append("c", []byte{9}), api.ErrFull)
	d.Crash(1)
	holds(t, d, "c", 6)
	answers(t, "Append", d.Append("c", []byte{7, 8, 9}), api.ErrFull)
	answers(t, "Append", d.Append("c", []byte{7, 8}), api.OK)
	d = New(math.MaxInt)
	answers(t, "Append with the greatest room", d.Append("a", []byte{1}), api.OK)
	holds(t, d, "a", 1)
}

func TestSafety(t *testing.T) { // P4.2
	d := halfSafe()
	answers(t, "Rename", d.Rename("a", "b"), api.OK)
	d.Append("c", []byte{8, 9})
	d.Crash(1, 1)
	holds(t, d, "b", 1, 2, 3)
	holds(t, d, "c", 8)
	d.Append("c", []byte{7})
	answers(t, "Rename over one", d.Rename("c", "b"), api.OK)
	answers(t, "Rename of one that is gone", d.Rename("c", "x"), api.ErrNone)
	d.Crash()
	holds(t, d, "b", 8)
	d = halfSafe()
	answers(t, "Cut in the tail", d.Cut("a", 4), api.OK)
	d.Append("a", []byte{9})
	d.Crash()
	holds(t, d, "a", 1, 2, 3, 4)
	answers(t, "Cut of what is safe", d.Cut("a", 1), api.OK)
	d.Append("a", []byte{9})
	d.Crash(1)
	holds(t, d, "a", 1, 9)
	answers(t, "Cut to nothing", d.Cut("a", 0), api.OK)
	holds(t, d, "a")
	answers(t, "Remove", d.Remove("a"), api.OK)
	d.Crash(5)
	answers(t, "Sync of one that is gone", d.Sync("a"), api.ErrNone)
	if d.Used() != 0 || len(d.List("")) != 0 {
		t.Errorf("a removed file is there behind a crash: %q", d.List(""))
	}
}

func TestList(t *testing.T) { // P4.1
	d := New(0)
	for _, name := range []string{"b", "a/2", "", "a/10", "a", "\xff", "B", "é", "a/"} {
		d.Append(name, nil)
	}
	for prefix, want := range map[string][]string{
		"": {"", "B", "a", "a/", "a/10", "a/2", "b", "é", "\xff"}, "a": {"a", "a/", "a/10", "a/2"}, "a/": {"a/", "a/10", "a/2"}, "a/2": {"a/2"}, "a/20": nil, "\xc3": {"é"}, "c": nil,
	} {
		if got := d.List(prefix); !slices.Equal(got, want) {
			t.Errorf("List(%q) = %q", prefix, got)
		}
	}
}

func TestTwin(t *testing.T) { // P4.3
	d := halfSafe()
	d.Arm(1)
	twin := d.Twin()
	answers(t, "the disk's Sync", d.Sync("a"), api.OK)
	answers(t, "the disk's second call", d.Remove("a"), api.ErrDead)
	holds(t, twin, "a", 1, 2, 3, 4, 5)
	answers(t, "the twin's room", twin.Append("b", make([]byte, 6)), api.ErrFull)
	answers(t, "the twin's call", twin.Append("a", []byte{6}), api.OK)
	answers(t, "the twin's second call", twin.Sync("a"), api.ErrDead)
	dead := d.Twin()
	if !dead.Dead() || dead.Used() != 5 {
		t.Errorf("a dead disk's twin: %v, %d", dead.Dead(), dead.Used())
	}
	d.Crash()
	twin.Crash(2)
	holds(t, d, "a", 1, 2, 3, 4, 5)
	holds(t, twin, "a", 1, 2, 3, 4)
	if !dead.Dead() {
		t.Errorf("the disk's crash brings its twin back")
	}
	zero := (&Disk{}).Twin()
	answers(t, "the zero disk's twin", zero.Append("a", nil), api.OK)
	answers(t, "the zero disk's twin", zero.Append("a", []byte{1}), api.ErrFull)
}

func TestNamed(t *testing.T) { // P4.1
	d := New(10)
	n := Named{d, "n1."}
	answers(t, "Append", n.Append(n.Path("log"), []byte{1}), api.OK)
	holds(t, d, "n1.log", 1)
	if n.Used() != 1 || !slices.Equal(n.List(""), []string{"n1.log"}) {
		t.Errorf("its calls aren't the disk's own")
	}
	for _, c := range []struct{ prefix, name, want string }{{"", "", ""}, {"a", "", "a"}, {"", "b", "b"}, {"a/", "b\xff", "a/b\xff"}} {
		if got := (Named{Prefix: c.prefix}).Path(c.name); got != c.want {
			t.Errorf("Path of %q, %q = %q", c.prefix, c.name, got)
		}
	}
}

// shares: does one text lie in the other one's memory?
func shares(part, whole string) bool {
	p, w := uintptr(unsafe.Pointer(unsafe.StringData(part))), uintptr(unsafe.Pointer(unsafe.StringData(whole)))
	return len(part) > 0 && p < w+uintptr(len(whole)) && w < p+uintptr(len(part))
}

func TestMemoryOfNames(t *testing.T) { // P4.4
	d := New(10)
	long := strings.Clone("a name of some length")
	name := long[2:6]
	d.Append(name, nil)
	d.Append(name, []byte{1})
	d.Append("other", nil)
	to := strings.Clone("another name")
	d.Rename("other", to)
	first, again := d.List(""), d.List("")
	if shares(first[1], long) || shares(first[0], to) || shares(first[0], again[0]) || shares(first[1], again[1]) {
		t.Errorf("List: a name lies in an argument's memory, or in another answer's")
	}
	for kept := range d.files {
		if shares(kept, long) || shares(kept, to) {
			t.Errorf("the name %q is kept in the memory that was handed in", kept)
		}
	}
	if got := (Named{d, ""}).Path(long); shares(got, long) {
		t.Errorf("Path: the answer lies in the argument")
	}
	if got := (Named{d, long}).Path(""); shares(got, long) {
		t.Errorf("Path: the answer lies in the prefix")
	}
	first[0], first[1] = "x", "y"
	if !slices.Equal(d.List(""), again) {
		t.Errorf("List: the answer is kept")
	}
}

func TestMemory(t *testing.T) { // P4.4
	d := New(100)
	b := []byte{1, 2, 3, 9, 9}[:3]
	d.Append("a", b)
	d.Append("a", b)
	if !slices.Equal(b[:5], []byte{1, 2, 3, 9, 9}) {
		t.Errorf("Append: the argument is changed: %v", b[:5])
	}
	clear(b)
	twin := d.Twin()
	first, _ := d.Read("a")
	again, _ := d.Read("a")
	clear(again[:cap(again)])
	if !slices.Equal(first, []byte{1, 2, 3, 1, 2, 3}) {
		t.Errorf("two answers of Read share memory")
	}
	first = first[:cap(first)]
	clear(first)
	d.Append("a", []byte{4})
	holds(t, d, "a", 1, 2, 3, 1, 2, 3, 4)
	if slices.Max(first) != 0 {
		t.Errorf("an answer of Read shares memory with the file")
	}
	holds(t, twin, "a", 1, 2, 3, 1, 2, 3)
	twin.Append("a", []byte{5})
	holds(t, d, "a", 1, 2, 3, 1, 2, 3, 4)
	d.Cut("a", 2)
	d.Append("a", []byte{7, 7, 7, 7})
	holds(t, twin, "a", 1, 2, 3, 1, 2, 3, 5)
	keeps := []int{2, 3}
	d.Crash(keeps[:1]...)
	holds(t, d, "a", 1, 2, 7, 7)
	if !slices.Equal(keeps, []int{2, 3}) {
		t.Errorf("Crash: the argument is changed: %v", keeps)
	}
}
