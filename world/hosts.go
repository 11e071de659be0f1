package world

import (
	"caisson/api"
	"caisson/disk"
	"caisson/node"
	"caisson/session"
)

// host is a node with its disk.
type host struct {
	disk *disk.Disk
	node *node.Node // nil: it is down
	seen []uint64   // how far each of its shards was applied when its records were looked at
}

// wake: a node is up, with what lies on its disk.
func (w *World) wake(id int) api.Errno {
	h := w.hosts[id]
	x, e := node.Open(h.disk, id, len(w.hosts), w.splits, w.options.Options)
	if e == api.OK {
		h.node, h.seen = x, make([]uint64, len(w.splits)+1)
	}
	return e
}

// start: a node that is down is up again.
func (w *World) start(id int, keeps []int) {
	h := w.hosts[id]
	if h.node != nil {
		return
	}
	if h.disk.Dead() {
		h.disk.Crash(keeps...)
	}
	if w.wake(id) == api.OK {
		w.look(h)
	}
}

// turn: what happens to a node that is up.
func (w *World) turn(h *host, e Event) {
	if h.node == nil {
		return
	}
	switch e.Kind {
	case Tick:
		list, died := h.node.Tick()
		w.follow(h, list, died)
	case Crash:
		h.node = nil
		h.disk.Crash(e.Keeps...)
	case Arm:
		h.disk.Arm(max(e.B, 0))
	case Rest:
		w.follow(h, nil, h.node.Rest())
	}
}

// step: a packet comes to a node, if that is up.
func (w *World) step(h *host, p session.Packet) {
	if h.node != nil {
		list, died := h.node.Step(p)
		w.follow(h, list, died)
	}
}

// follow: what follows from what a node has done: its packets are on their way, and what it has decided is seen. One whose disk has died is down.
func (w *World) follow(h *host, list []session.Packet, died api.Errno) {
	if died != api.OK {
		h.node = nil
		return
	}
	w.send(list...)
	w.look(h)
}
