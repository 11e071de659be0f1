package session

import (
	"bytes"
	"fmt"
	"math"
	"math/rand/v2"
	"strings"
	"testing"

	"caisson/api"
	"caisson/plan"
)

func get(id int64) []plan.Op {
	return []plan.Op{{Kind: plan.Get, Table: "t", Cells: []api.Cell{{Kind: api.Int, Int: id}}}}
}

// replyTo is the packet of a reply.
func replyTo(x api.Txn, r plan.Reply) Packet {
	return Packet{Kind: Reply, From: 2, Txn: x, Data: r.Bytes()}
}

// sized is a request of so many bytes.
func sized(n int) []plan.Op {
	for name := n - 20; ; name++ {
		ops := []plan.Op{{Kind: plan.List, Table: strings.Repeat("t", name), Most: 1}}
		if len(plan.Encode(ops)) >= n {
			return ops
		}
	}
}

func TestExample(t *testing.T) { // P24.2
	c := New(7)
	if c.Session != 7 {
		t.Errorf("Session = %d", c.Session)
	}
	is(t, "New", c, nil)
	asks(t, c, get(1), api.Txn{Session: 7, Seq: 1})
	if x, e := c.Ask(get(1)); e != api.ErrBusy || x != (api.Txn{}) {
		t.Errorf("Ask again = %v, %v", x, e)
	}
	r := plan.Reply{Err: api.ErrGuard, At: 2}
	takes(t, "another one's", c, replyTo(api.Txn{Session: 7, Seq: 2}, r), false)
	takes(t, "its own", c, replyTo(api.Txn{Session: 7, Seq: 1}, r), true)
	takes(t, "again", c, replyTo(api.Txn{Session: 7, Seq: 1}, r), false)
	is(t, "a reply", c, nil, r)
}

// asks asks a request that is taken.
func asks(t *testing.T, c *Client, ops []plan.Op, want api.Txn) {
	t.Helper()
	if x, e := c.Ask(ops); e != api.OK || x != want {
		t.Fatalf("Ask = %v, %v; want %v", x, e, want)
	}
	is(t, "Ask", c, &want, c.Replies()...)
	for _, to := range []int{2, 0, -1, math.MaxInt} {
		p, ok := c.Call(to)
		if want := (Packet{Kind: Call, To: to, Txn: want, Data: plan.Encode(ops)}); !ok || !alike(p, want) {
			t.Fatalf("Call(%d) = %v, %v; want %v", to, p, ok, want)
		}
	}
}

// takes has a packet come.
func takes(t *testing.T, what string, c *Client, p Packet, want bool) {
	t.Helper()
	x, open := c.Open()
	had := c.Replies()
	got, ok := c.Take(p)
	if ok != want || !ok && !zero(got) {
		t.Fatalf("%s: Take(%v) = %v, %v", what, p, got, ok)
	}
	if ok {
		if r, e := plan.Read(p.Data); e != api.OK || !alike(got, r) {
			t.Fatalf("%s: Take(%v) = %v", what, p, got)
		}
		is(t, what, c, nil, append(had, got)...)
	} else if open {
		is(t, what, c, &x, had...)
	} else {
		is(t, what, c, nil, had...)
	}
}

// is looks what a client says of itself.
func is(t *testing.T, what string, c *Client, open *api.Txn, replies ...plan.Reply) {
	t.Helper()
	x, ok := c.Open()
	if ok != (open != nil) || ok && x != *open || !ok && x != (api.Txn{}) {
		t.Fatalf("%s: Open = %v, %v", what, x, ok)
	}
	if p, called := c.Call(3); called != ok || !ok && !zero(p) {
		t.Fatalf("%s: Call = %v, %v", what, p, called)
	}
	if got := c.Replies(); !alike(got, replies) {
		t.Fatalf("%s: Replies = %v; want %v", what, got, replies)
	}
}

func TestTake(t *testing.T) { // P24.2
	c := New(3)
	x := api.Txn{Session: 3, Seq: 1}
	good := replyTo(x, plan.Reply{Rows: [][][]api.Cell{{{{Kind: api.Text, Text: "a"}}}}})
	takes(t, "nothing is asked", c, good, false)
	takes(t, "nothing is asked", c, replyTo(api.Txn{}, plan.Reply{}), false)
	takes(t, "nothing is asked", c, replyTo(api.Txn{Session: 3}, plan.Reply{}), false)
	asks(t, c, get(1), x)
	bad := func(change func(p *Packet)) Packet {
		p := good
		change(&p)
		return p
	}
	for what, p := range map[string]Packet{
		"nothing": {}, "another kind": bad(func(p *Packet) { p.Kind = Answer }), "a Call": bad(func(p *Packet) { p.Kind = Call }), "no kind": bad(func(p *Packet) { p.Kind = 6 }),
		"another session": bad(func(p *Packet) { p.Txn.Session = 4 }), "an earlier request": bad(func(p *Packet) { p.Txn.Seq = 0 }), "a later request": bad(func(p *Packet) { p.Txn.Seq = 2 }),
		"a Code": bad(func(p *Packet) { p.Code = api.ErrForm }), "another Code": bad(func(p *Packet) { p.Code = -1 }),
		"no Data": bad(func(p *Packet) { p.Data = nil }), "half the Data": bad(func(p *Packet) { p.Data = p.Data[:len(p.Data)-1] }), "Data and more": bad(func(p *Packet) { p.Data = append(bytes.Clone(p.Data), 0) }), "Data that is none": bad(func(p *Packet) { p.Data = bytes.Repeat([]byte{255}, 99) }),
	} {
		takes(t, what, c, p, false)
	}
	takes(t, "the right one, from anywhere", c, bad(func(p *Packet) { p.From, p.To, p.Shard, p.Lead = -1, 9, 9, 9 }), true)
	takes(t, "twice", c, good, false)
	asks(t, c, get(2), api.Txn{Session: 3, Seq: 2})
	takes(t, "late", c, good, false)
	takes(t, "the second one", c, replyTo(api.Txn{Session: 3, Seq: 2}, plan.Reply{Err: api.ErrBusy}), true)
	asks(t, c, nil, api.Txn{Session: 3, Seq: 3})
	takes(t, "the third one", c, replyTo(api.Txn{Session: 3, Seq: 3}, plan.Reply{}), true)
	if l := c.Replies(); len(l) != 3 || l[0].Err != 0 || len(l[0].Rows) != 1 || l[1].Err != api.ErrBusy || len(l[2].Rows) != 0 {
		t.Errorf("Replies = %v", l)
	}
}

func TestMaxRequest(t *testing.T) { // P24.2
	for n, want := range map[int]api.Errno{7999: api.OK, 8000: api.OK, 8001: api.ErrSize, 8002: api.ErrSize, 50000: api.ErrSize} {
		ops := sized(n)
		if got := len(plan.Encode(ops)); got != n {
			t.Fatalf("a request of %d bytes has %d", n, got)
		}
		c := New(1)
		x, e := c.Ask(ops)
		if e != want || (x == api.Txn{}) != (want != api.OK) {
			t.Errorf("Ask of %d bytes = %v, %v; want %v", n, x, e, want)
		}
		if want != api.OK {
			is(t, "too long", c, nil)
			asks(t, c, get(1), api.Txn{Session: 1, Seq: 1}) // no number is gone
		}
		if x, e := c.Ask(sized(50000)); e != api.ErrBusy || x != (api.Txn{}) {
			t.Errorf("Ask of a busy client, and too long = %v, %v", x, e)
		}
	}
	c := New(math.MaxUint64)
	asks(t, c, make([]plan.Op, 300), api.Txn{Session: math.MaxUint64, Seq: 1}) // a request need not be in form
}

// play does a script: a client's calls, in any order, and packets of any kind.
func play(t *testing.T, seed uint64, script []byte) {
	r := rand.New(rand.NewPCG(24, seed))
	c := New(seed)
	var open bool
	var x api.Txn
	var request []plan.Op
	var replies []plan.Reply
	for i, b := range script {
		what := fmt.Sprint("the step ", i)
		switch {
		case b < 60:
			ops := get(int64(b))
			want := api.OK
			if b < 6 {
				ops, want = sized(8001), api.ErrSize
			}
			if open {
				want = api.ErrBusy
			}
			got, e := c.Ask(ops)
			if e == api.OK {
				open, request, x = true, ops, api.Txn{Session: seed, Seq: x.Seq + 1}
			}
			if e != want || want == api.OK && got != x || want != api.OK && got != (api.Txn{}) {
				t.Fatalf("%s: Ask = %v, %v; want %v, %v", what, got, e, x, want)
			}
		case b < 100:
			p, ok := c.Call(int(b))
			if ok != open || ok && !alike(p, Packet{Kind: Call, To: int(b), Txn: x, Data: plan.Encode(request)}) || !ok && !zero(p) {
				t.Fatalf("%s: Call = %v, %v", what, p, ok)
			}
		default:
			y := x
			if r.IntN(3) == 0 {
				y.Seq += r.Uint64N(5) - 2
			}
			p := replyTo(y, plan.Reply{Err: api.Errno(b % 3), At: i})
			switch r.IntN(9) {
			case 0:
				p.Kind = r.IntN(8)
			case 1:
				p.Code = api.Errno(r.IntN(4))
			case 2:
				p.Data = p.Data[:r.IntN(len(p.Data)+1)]
			}
			want, e := plan.Read(p.Data)
			good := open && p.Kind == Reply && p.Code == 0 && y == x && e == 0
			got, ok := c.Take(p)
			if ok != good || ok && !alike(got, want) || !ok && !zero(got) {
				t.Fatalf("%s: Take(%v) = %v, %v", what, p, got, ok)
			}
			if good {
				open, replies = false, append(replies, want)
			}
		}
		if open {
			is(t, what, c, &x, replies...)
		} else {
			is(t, what, c, nil, replies...)
		}
	}
}

func TestPlays(t *testing.T) { // P24.2
	r := rand.New(rand.NewPCG(24, 9))
	for i := range 40 {
		script := make([]byte, 200)
		for i := range script {
			script[i] = byte(r.Uint32())
		}
		play(t, uint64(i), script)
	}
}

// FuzzPlay: any script.
func FuzzPlay(f *testing.F) { // P24.2
	f.Add(uint64(7), []byte("a client that asks, calls, and is sent some replies"))
	f.Fuzz(func(t *testing.T, seed uint64, script []byte) { play(t, seed, script[:min(len(script), 300)]) })
}
