package session

import (
	"caisson/api"
	"caisson/crc"
	"caisson/raft"
	"caisson/shard"
)

// Packet goes over the net.
type Packet struct {
	Kind, From, To, Shard, Round, Cmd, Lead int
	Txn                                     api.Txn
	Code                                    api.Errno
	Msg                                     raft.Msg
	Res                                     shard.Result
	Data                                    []byte
}

// Bytes: a packet's, sealed.
func (p Packet) Bytes() ([]byte, api.Errno) {
	if !isKind(p.Kind) {
		return nil, api.ErrForm
	}
	var out []byte
	p.parts(putting(&out))
	return crc.Seal(out)
}

// Read: the packet of bytes.
func Read(b []byte) (Packet, api.Errno) {
	inside, end, e := crc.Open(b, 0)
	if e != api.OK {
		return Packet{}, e
	}
	if end < len(b) {
		return Packet{}, api.ErrForm
	}
	h, done := taking(inside)
	var p Packet
	p.parts(h)
	if e := done(); e != api.OK {
		return Packet{}, e
	}
	if !isKind(p.Kind) {
		return Packet{}, api.ErrForm
	}
	return p, api.OK
}

// isKind: is it a packet's?
func isKind(kind int) bool { return kind >= Raft && kind <= Reply }

// parts: the kind, and what it uses, part by part: they are put, or taken.
func (p *Packet) parts(h hand) {
	h.number(&p.Kind)
	switch p.Kind {
	case Raft:
		h.numbers(&p.From, &p.To, &p.Shard)
		h.message(&p.Msg)
	case Ask:
		h.numbers(&p.From, &p.To, &p.Shard, &p.Round)
		h.txn(&p.Txn)
		h.bytes(&p.Data)
	case Answer:
		h.numbers(&p.From, &p.To, &p.Shard, &p.Round, &p.Cmd, &p.Lead)
		h.txn(&p.Txn)
		h.code(&p.Code)
		h.result(&p.Res)
	case Call:
		h.number(&p.To)
		h.txn(&p.Txn)
		h.bytes(&p.Data)
	case Reply:
		h.number(&p.From)
		h.txn(&p.Txn)
		h.code(&p.Code)
		h.bytes(&p.Data)
	}
}

func (h hand) txn(x *api.Txn) {
	h.long(&x.Session)
	h.long(&x.Seq)
}

func (h hand) code(e *api.Errno) {
	n := int(*e)
	h.number(&n)
	*e = api.Errno(n)
}

func (h hand) message(m *raft.Msg) {
	h.numbers(&m.Kind, &m.From, &m.To)
	h.longs(&m.Term, &m.Index, &m.LogTerm, &m.Commit)
	each(h, &m.Entries, func(x *raft.Entry) {
		h.long(&x.Term)
		h.bytes(&x.Data)
	})
	h.flag(&m.OK)
	h.bytes(&m.Data)
}

func (h hand) result(r *shard.Result) {
	h.code(&r.Err)
	h.number(&r.Status)
	h.long(&r.Ts)
	each(h, &r.Pairs, func(x *api.Pair) {
		h.bytes(&x.Key)
		h.bytes(&x.Value)
	})
	h.flag(&r.Record.Commit)
	h.long(&r.Record.Ts)
	each(h, &r.Record.Writes, func(x *api.Write) {
		h.bytes(&x.Key)
		h.bytes(&x.Value)
		h.flag(&x.Gone)
	})
	h.bytes(&r.Record.Reply)
}
