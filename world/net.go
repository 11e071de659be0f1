package world

import (
	"slices"

	"caisson/api"
	"caisson/plan"
	"caisson/session"
)

// mostWay is how many packets there may be on their way.
const mostWay = 200

// parcel is a packet on its way.
type parcel struct {
	data   []byte
	spoilt bool // a bit of it was turned
}

// send: packets are on their way from now on; where they are too many the oldest are lost. One that is too long to be sealed never is.
func (w *World) send(list ...session.Packet) {
	for _, p := range list {
		if b, e := p.Bytes(); e == api.OK {
			w.way = append(w.way, parcel{data: b})
		}
	}
	w.way = slices.Delete(w.way, 0, max(len(w.way)-mostWay, 0))
}

// travel: what happens to a packet on its way.
func (w *World) travel(e Event) {
	if len(w.way) == 0 {
		return
	}
	at := among(e.A, len(w.way))
	if e.Kind == Spoil {
		w.way[at].spoil(e.B)
		return
	}
	data := w.way[at].data
	if e.Kind != Double {
		w.way = slices.Delete(w.way, at, at+1)
	}
	if e.Kind != Lose {
		w.come(data)
	}
}

// spoil: a bit is turned. A second one isn't, as that could be the first one again.
func (p *parcel) spoil(bit int) {
	if p.spoilt {
		return
	}
	bit = among(bit, 8*len(p.data))
	p.data[bit/8] ^= 1 << (bit % 8)
	p.spoilt = true
}

// come: a packet is read, and goes to its node, or to its client.
func (w *World) come(data []byte) {
	p, e := session.Read(data)
	switch {
	case e != api.OK:
	case p.Kind == session.Reply:
		w.take(p)
	case p.To >= 0 && p.To < len(w.hosts):
		w.step(w.hosts[p.To], p)
	}
}

// take: a Reply comes to its client.
func (w *World) take(p session.Packet) {
	if p.Txn.Session >= MaxClients {
		return
	}
	w.clients[p.Txn.Session].Take(p)
	if _, e := plan.Read(p.Data); p.Code == api.OK && e == api.OK {
		w.replies = append(w.replies, replied{txn: p.Txn, data: p.Data, at: w.events})
	}
}

// ask: a client asks a request, if it has no open one; and it calls a node.
func (w *World) ask(i, to int, ops []plan.Op) {
	c := w.clients[i]
	if txn, e := c.Ask(ops); e == api.OK {
		w.calls = append(w.calls, Called{Txn: txn, Ops: ownOps(ops), At: w.events})
		w.undecided = append(w.undecided, txn)
	}
	if p, open := c.Call(to); open {
		w.send(p)
	}
}
