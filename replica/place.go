package replica

import (
	"caisson/api"
	"caisson/crc"
	"caisson/lsm"
	"caisson/mvcc"
	"caisson/raft"
	"caisson/shard"
)

// What stands behind the prefix in the names of files. A machine lies at one of two places: so the one that is restored is whole ahead of the moment at which it takes the other one's place, which is that of a Rename.
const (
	logEnd   = "l."
	whichEnd = "which" // a file that says at which place the machine lies; without it, at the first
	newEnd   = ".new"  // stands behind that name while the file is written
)

// placeEnd: what stands behind the prefix in the names of the files of the machine at a place.
func placeEnd(place int) string {
	if place == 0 {
		return "0."
	}
	return "1."
}

// openMachine: the machine, from where it lies.
func (r *Replica) openMachine() api.Errno {
	place, e := r.which()
	if e != api.OK {
		return e
	}
	s, e := r.store(place)
	if e != api.OK {
		return e
	}
	m, e := shard.Open(s)
	if e != api.OK {
		return e
	}
	r.Machine, r.place = m, place
	return api.OK
}

// which: the place at which the machine lies.
func (r *Replica) which() (int, api.Errno) {
	b, e := r.files.Read(r.files.Path(whichEnd))
	switch e {
	case api.ErrNone:
		return 0, api.OK
	case api.OK:
	default:
		return 0, e
	}
	inside, end, e := crc.Open(b, 0)
	if e != api.OK || end < len(b) || len(inside) != 1 || inside[0] > 1 {
		return 0, api.ErrForm
	}
	return int(inside[0]), api.OK
}

// store: the store at a place.
func (r *Replica) store(place int) (mvcc.Store, api.Errno) {
	g, e := lsm.Open(r.files.Disk, r.files.Path(placeEnd(place)), r.options.Lsm)
	if e != api.OK {
		return mvcc.Store{}, e
	}
	return mvcc.Of(g), api.OK
}

// sweep: what an event in which the disk died has left is removed.
func (r *Replica) sweep() api.Errno {
	if e := r.clear(whichEnd + newEnd); e != api.OK {
		return e
	}
	return r.clear(placeEnd(1 - r.place))
}

// clear: no file is left whose name begins so.
func (r *Replica) clear(begin string) api.Errno {
	for _, name := range r.files.List(r.files.Path(begin)) {
		if e := r.files.Remove(name); e != api.OK {
			return e
		}
	}
	return api.OK
}

// install: the machine that a Snap has, at the other place, takes the place of its own, unless that has been applied as far. If it can't be nothing has changed.
func (r *Replica) install(m raft.Msg) api.Errno {
	other := 1 - r.place
	machine, e := r.restore(other, m)
	further := e == api.OK && machine.Applied() > r.Applied()
	if further {
		e = r.choose(other)
	}
	if further && e == api.OK {
		r.Machine, r.place = machine, other
	}
	if died := r.sweep(); died != api.OK {
		return died
	}
	return e
}

// restore: the machine that a Snap has, at a place where nothing lies.
func (r *Replica) restore(place int, m raft.Msg) (*shard.Machine, api.Errno) {
	s, e := r.store(place)
	if e != api.OK {
		return nil, e
	}
	machine, e := shard.Restore(s, m.Data)
	if e != api.OK {
		return nil, e
	}
	if machine.Applied() != m.Index {
		return nil, api.ErrForm
	}
	return machine, api.OK
}

// choose: from now on the machine lies at this place.
func (r *Replica) choose(place int) api.Errno {
	sealed, e := crc.Seal([]byte{byte(place)})
	if e != api.OK {
		return e
	}
	path := r.files.Path(whichEnd)
	if e := r.files.Append(path+newEnd, sealed); e != api.OK {
		return e
	}
	if e := r.files.Sync(path + newEnd); e != api.OK {
		return e
	}
	return r.files.Rename(path+newEnd, path)
}
