package session

import (
	"bytes"
	"fmt"
	"math"
	"math/rand/v2"
	"reflect"
	"slices"
	"testing"

	"caisson/api"
	"caisson/crc"
	"caisson/plan"
	"caisson/raft"
	"caisson/shard"
)

// alike: are these the same, empty lists and nil too?
func alike(a, b any) bool {
	return fmt.Sprintf("%#v", bare(reflect.ValueOf(a))) == fmt.Sprintf("%#v", bare(reflect.ValueOf(b)))
}

// bare is a value as lists of lists, without types.
func bare(v reflect.Value) any {
	out := []any{}
	switch v.Kind() {
	case reflect.Slice:
		for i := range v.Len() {
			out = append(out, bare(v.Index(i)))
		}
	case reflect.Struct:
		for i := range v.NumField() {
			out = append(out, bare(v.Field(i)))
		}
	default:
		return v.Interface()
	}
	return out
}

func zero(x any) bool { return reflect.ValueOf(x).IsZero() }

// fill gives a value's fields any values.
func fill(v reflect.Value, r *rand.Rand) {
	odd := []int64{0, 1, -1, 127, 128, 300, math.MaxInt64, math.MinInt64, 1 << 62}
	n := odd[r.IntN(len(odd))]
	switch v.Kind() {
	case reflect.Slice:
		if r.IntN(5) > 0 {
			v.Set(reflect.MakeSlice(v.Type(), r.IntN(4), 4))
		}
		for i := range v.Len() {
			fill(v.Index(i), r)
		}
	case reflect.Struct:
		for i := range v.NumField() {
			fill(v.Field(i), r)
		}
	case reflect.Int:
		v.SetInt(n)
	case reflect.Uint64, reflect.Uint8:
		v.SetUint(uint64(n))
	case reflect.Bool:
		v.SetBool(r.IntN(2) == 0)
	}
}

// anyPacket is one of a kind, with any values.
func anyPacket(kind int, r *rand.Rand) Packet {
	var p Packet
	fill(reflect.ValueOf(&p).Elem(), r)
	p.Kind = kind
	return p
}

// comesBack is what comes back of a packet, by the words of the document.
func comesBack(p Packet) Packet {
	switch p.Kind {
	case Raft:
		return Packet{Kind: p.Kind, From: p.From, To: p.To, Shard: p.Shard, Msg: p.Msg}
	case Ask:
		return Packet{Kind: p.Kind, From: p.From, To: p.To, Shard: p.Shard, Round: p.Round, Txn: p.Txn, Data: p.Data}
	case Answer:
		return Packet{Kind: p.Kind, From: p.From, To: p.To, Shard: p.Shard, Round: p.Round, Txn: p.Txn, Cmd: p.Cmd, Code: p.Code, Lead: p.Lead, Res: p.Res}
	case Call:
		return Packet{Kind: p.Kind, To: p.To, Txn: p.Txn, Data: p.Data}
	}
	return Packet{Kind: p.Kind, From: p.From, Txn: p.Txn, Code: p.Code, Data: p.Data}
}

// packets are some of each kind.
func packets() []Packet {
	x := api.Txn{Session: 1 << 40, Seq: 9}
	res := shard.Result{Err: api.ErrOld, Status: 2, Ts: 1 << 50, Pairs: []api.Pair{{Key: []byte("k"), Value: []byte("v")}, {}}, Record: shard.Record{Commit: true, Ts: 7, Writes: []api.Write{{Key: []byte("w"), Gone: true}, {Key: []byte{0}, Value: []byte("x")}}, Reply: []byte("reply")}}
	return []Packet{
		{Kind: Raft, From: 1, To: 2, Shard: 3, Msg: raft.Msg{Kind: raft.Append, From: 4, To: 5, Term: 6, Index: 7, LogTerm: 8, Commit: 9, Entries: []raft.Entry{{Term: 10, Data: []byte("x")}, {}, {Term: 11}}, OK: true, Data: []byte("data")}},
		{Kind: Ask, From: 1, To: 2, Shard: 3, Round: 4, Txn: x, Data: shard.Encode(shard.Cmd{Kind: shard.Lock, Txn: x})},
		{Kind: Answer, From: 1, To: 2, Shard: 3, Round: 4, Txn: x, Cmd: shard.Decide, Code: api.ErrLead, Lead: -1, Res: res},
		{Kind: Call, To: 2, Txn: x, Data: plan.Encode(nil)},
		{Kind: Reply, From: 1, Txn: x, Code: api.ErrForm, Data: plan.Reply{Err: api.ErrBusy}.Bytes()},
		{Kind: Raft}, {Kind: Ask}, {Kind: Answer}, {Kind: Call}, {Kind: Reply},
	}
}

// comes looks whether just that comes back which should.
func comes(t *testing.T, p Packet) {
	t.Helper()
	b, e := p.Bytes()
	if e != api.OK {
		t.Fatalf("Bytes of %.1000v: %v", p, e)
	}
	if inside, end, e := crc.Open(b, 0); e != api.OK || end != len(b) || len(inside) == 0 {
		t.Fatalf("the Bytes of %.1000v aren't sealed", p)
	}
	got, e := Read(b)
	if want := comesBack(p); e != api.OK || !alike(got, want) {
		t.Fatalf("%.1000v comes back as %.1000v, %v; want %.1000v", p, got, e, want)
	}
}

func TestPackets(t *testing.T) { // P24.1
	for _, p := range packets() {
		comes(t, p)
	}
	r := rand.New(rand.NewPCG(24, 1))
	for range 4000 {
		for kind := Raft; kind <= Reply; kind++ {
			comes(t, anyPacket(kind, r))
		}
	}
}

func TestKinds(t *testing.T) { // P24.1
	if Raft != 1 || Ask != 2 || Answer != 3 || Call != 4 || Reply != 5 || MaxRequest != 8000 {
		t.Errorf("the kinds' numbers")
	}
	r := rand.New(rand.NewPCG(24, 2))
	for _, kind := range []int{0, -1, 6, 7, 10, 255, 257, 1 << 32, 1<<32 + 1, math.MaxInt, math.MinInt} {
		for range 20 {
			p := anyPacket(kind, r)
			if b, e := p.Bytes(); e != api.ErrForm || b != nil {
				t.Errorf("Bytes of the kind %d = %v, %v", kind, b, e)
			}
			p.Data = make([]byte, 2*api.MaxRecord)
			if b, e := p.Bytes(); e != api.ErrForm || b != nil {
				t.Errorf("Bytes of the kind %d with much Data: %d, %v", kind, len(b), e)
			}
		}
	}
}

func TestTooLong(t *testing.T) { // P24.1
	many := func(n int) []byte { return bytes.Repeat([]byte{7}, n) }
	write := func(n int) shard.Record {
		return shard.Record{Writes: []api.Write{{Key: many(n / 2), Value: many(n - n/2)}}}
	}
	for what, of := range map[string]func(n int) Packet{
		"Ask":        func(n int) Packet { return Packet{Kind: Ask, Data: many(n)} },
		"Call":       func(n int) Packet { return Packet{Kind: Call, Data: many(n)} },
		"Reply":      func(n int) Packet { return Packet{Kind: Reply, Data: many(n)} },
		"Msg's Data": func(n int) Packet { return Packet{Kind: Raft, Msg: raft.Msg{Data: many(n)}} },
		"Msg's Entries": func(n int) Packet {
			return Packet{Kind: Raft, Msg: raft.Msg{Entries: slices.Repeat([]raft.Entry{{Data: many(n / 10)}}, 10)}}
		},
		"Pairs": func(n int) Packet {
			return Packet{Kind: Answer, Res: shard.Result{Pairs: slices.Repeat([]api.Pair{{Key: many(n / 8), Value: many(n / 8)}}, 4)}}
		},
		"Writes": func(n int) Packet { return Packet{Kind: Answer, Res: shard.Result{Record: write(n)}} },
		"Record's Reply": func(n int) Packet {
			return Packet{Kind: Answer, Res: shard.Result{Record: shard.Record{Reply: many(n)}}}
		},
	} {
		for n, want := range map[int]api.Errno{api.MaxRecord - 300: api.OK, api.MaxRecord: api.ErrSize, api.MaxRecord + 1: api.ErrSize, 3 * api.MaxRecord: api.ErrSize} {
			p := of(n)
			b, e := p.Bytes()
			if e != want || (b == nil) != (want != api.OK) {
				t.Errorf("Bytes of %s of %d bytes: %d, %v; want %v", what, n, len(b), e, want)
			}
			if got, f := Read(b); want == api.OK && (f != api.OK || !reflect.DeepEqual(got, p)) {
				t.Errorf("%s of %d bytes doesn't come back: %v", what, n, f)
			}
		}
	}
	edge := 0 // the longest Data that can be sealed
	for n := api.MaxRecord - 40; n <= api.MaxRecord; n++ {
		b, e := Packet{Kind: Call, Data: many(n)}.Bytes()
		if e == api.OK {
			edge = len(b)
		}
		if (e != api.OK) != (edge == api.MaxRecord+8 && len(b) == 0) {
			t.Fatalf("Bytes of a Call of %d bytes: %d, %v", n, len(b), e)
		}
	}
	for _, p := range []Packet{{Kind: Raft, Data: many(2 << 20)}, {Kind: Answer, Data: many(2 << 20)}, {Kind: Call, Res: shard.Result{Record: write(2 << 20)}}, {Kind: Reply, Msg: raft.Msg{Data: many(2 << 20)}}} {
		comes(t, p) // what the kind doesn't use isn't too long
	}
	entries := slices.Repeat([]raft.Entry{{Data: many(1 << 20)}}, 1<<20) // all one list
	if b, e := (Packet{Kind: Raft, Msg: raft.Msg{Entries: entries}}).Bytes(); e != api.ErrSize || b != nil {
		t.Errorf("Bytes of very many: %d, %v", len(b), e)
	}
}

// refused looks whether bytes aren't read, by this error.
func refused(t *testing.T, what string, b []byte, want ...api.Errno) {
	t.Helper()
	p, e := Read(b)
	if e == api.OK || len(want) > 0 && !slices.Contains(want, e) || !zero(p) {
		t.Fatalf("Read of %s = %.1000v, %v; want %v", what, p, e, want)
	}
}

// sealed are bytes as a record.
func sealed(b ...byte) []byte {
	out, _ := crc.Seal(b)
	return out
}

func TestReadErrors(t *testing.T) { // P24.1
	refused(t, "nothing", nil, api.ErrEnd)
	refused(t, "a record of nothing", sealed(), api.ErrEnd, api.ErrForm)
	refused(t, "a length that is too great", []byte{0, 16, 0, 1, 0, 0, 0, 0, 0}, api.ErrSize)
	refused(t, "the greatest length", []byte{255, 255, 255, 255, 0, 0, 0, 0}, api.ErrSize)
	for _, p := range packets() {
		b, _ := p.Bytes()
		for n := range b {
			refused(t, "a beginning", b[:n], api.ErrEnd)
		}
		for _, more := range [][]byte{{0}, {1, 2, 3}, b} {
			refused(t, "bytes with more behind them", append(bytes.Clone(b), more...), api.ErrForm)
		}
		spoilt := bytes.Clone(b)
		spoilt[len(b)-1]++
		refused(t, "a spoilt packet", spoilt, api.ErrSum)
		inside := b[8:]
		for n := range inside {
			refused(t, "a beginning, sealed", sealed(inside[:n]...), api.ErrEnd, api.ErrForm)
		}
		refused(t, "more, sealed", sealed(append(bytes.Clone(inside), 0)...), api.ErrForm)
		refused(t, "the kind 0, sealed", sealed(append([]byte{0}, inside[1:]...)...), api.ErrForm)
		refused(t, "the kind 6, sealed", sealed(append([]byte{6}, inside[1:]...)...), api.ErrForm)
	}
	for _, b := range [][]byte{{0}, {6}, {255, 255, 255, 255, 255, 255, 255, 255, 255, 1}, {129, 0}, {128, 0}, bytes.Repeat([]byte{255}, 30)} {
		refused(t, "no kind, sealed", sealed(b...), api.ErrForm)
	}
	refused(t, "half a kind, sealed", sealed(128), api.ErrEnd)
	refused(t, "more entries than there are bytes, sealed", sealed(append(append([]byte{Raft}, make([]byte, 10)...), 255, 255, 255, 255, 255, 255, 255, 255, 255, 1)...), api.ErrEnd)
}

// reads looks what is read of bytes that may be no packet's: one that has just these bytes, or nothing.
func reads(t *testing.T, b []byte) bool {
	t.Helper()
	p, e := Read(b)
	if e != api.OK {
		if !zero(p) {
			t.Fatalf("Read of %v = %v, %v", b, p, e)
		}
		return false
	}
	if again, e := p.Bytes(); e != api.OK || !bytes.Equal(again, b) {
		t.Fatalf("Read of %v = %v, which has the bytes %v, %v", b, p, again, e)
	}
	return true
}

func TestOtherBytes(t *testing.T) { // P24.1, P1
	r := rand.New(rand.NewPCG(24, 3))
	for range 50000 {
		b := make([]byte, r.IntN(40))
		for i := range b {
			b[i] = byte(r.IntN(6))
			if r.IntN(20) == 0 {
				b[i] = byte(r.IntN(256))
			}
		}
		reads(t, b)
		_, _, whole := crc.Open(sealed(b...), 0)
		if !reads(t, sealed(b...)) && whole == api.OK {
			refused(t, "any bytes, sealed", sealed(b...), api.ErrEnd, api.ErrForm)
		}
	}
	for _, p := range packets() {
		b, _ := p.Bytes()
		for i := range b[8:] {
			for bit := range 8 {
				inside := bytes.Clone(b[8:])
				inside[i] ^= 1 << bit
				reads(t, sealed(inside...))
			}
		}
	}
}

func TestSpoilt(t *testing.T) { // P24.3
	r := rand.New(rand.NewPCG(24, 4))
	long := Packet{Kind: Reply, Data: make([]byte, 5000)}
	for i := range long.Data {
		long.Data[i] = byte(r.Uint32())
	}
	for _, p := range append(packets(), long) {
		b, _ := p.Bytes()
		for bit := range 8 * len(b) {
			spoilt := bytes.Clone(b)
			spoilt[bit/8] ^= 1 << (bit % 8)
			if refused(t, "a packet with a turned bit", spoilt); bit >= 64 {
				refused(t, "a packet with a turned bit", spoilt, api.ErrSum)
			}
		}
		for range 3000 {
			spoilt := bytes.Clone(b)
			from := 64 + r.IntN(8*len(b)-64)
			for bit := from; bit < min(from+32, 8*len(b)); bit++ {
				if bit == from || r.IntN(2) == 0 {
					spoilt[bit/8] ^= 128 >> (bit % 8)
				}
			}
			refused(t, "a packet with turned bits near one another", spoilt, api.ErrSum)
		}
	}
}

// FuzzRead: any bytes are refused, or a packet's; sealed too.
func FuzzRead(f *testing.F) { // P24.1, P1
	for _, p := range packets() {
		b, _ := p.Bytes()
		f.Add(b[8:])
	}
	f.Fuzz(func(t *testing.T, b []byte) {
		reads(t, b)
		reads(t, sealed(b...))
	})
}
