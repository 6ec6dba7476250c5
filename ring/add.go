package ring

import "pharos/api"

// Flags of a descriptor.
const (
	flagNext  uint16 = 1 // another one follows
	flagWrite uint16 = 2 // the device writes the buffer
)

// Add makes a chain of these buffers available to the device, and lends it those that are In. The chain's head.
func (r *Ring) Add(l []api.Buf) (uint16, api.Errno) {
	if r.none() {
		return 0, api.ErrNil
	}
	if r.broken {
		return 0, api.ErrRing
	}
	if !mayBe(l) {
		return 0, api.ErrArg
	}
	if !r.holds(l) {
		return 0, api.ErrOut
	}
	free := r.free(len(l))
	if len(free) < len(l) {
		return 0, api.ErrFull
	}
	if !r.writable(free) || !r.lend(l) {
		return 0, api.ErrLent
	}
	write := r.writer(free)
	for _, b := range l {
		write(b)
	}
	r.offer(free[0])
	r.chains[free[0]] = chain{bufs: append([]api.Buf(nil), l...), descs: free}
	return free[0], api.OK
}

// mayBe tells whether buffers may be a chain, as far as their number, their Lens and their order go.
func mayBe(l []api.Buf) bool {
	if len(l) < 1 || len(l) > api.MaxChain {
		return false
	}
	in := false
	for _, b := range l {
		if b.Len < 1 || in && !b.In {
			return false
		}
		in = b.In
	}
	return true
}

// holds tells whether each buffer ends at the memory's end at the latest.
func (r *Ring) holds(l []api.Buf) bool {
	for _, b := range l {
		if uint64(b.At)+uint64(b.Len) > uint64(r.m.Size()) {
			return false
		}
	}
	return true
}

// free is the free descriptors of the least numbers, rising: n of them, or all that are.
func (r *Ring) free(n int) []uint16 {
	var l []uint16
	for k, t := range r.taken {
		if !t && len(l) < n {
			l = append(l, uint16(k))
		}
	}
	return l
}

// writable tells whether nothing is lent of what a chain of these descriptors is written into: whoever else has the memory may have lent it, and a chain that is written in part must not be.
func (r *Ring) writable(descs []uint16) bool {
	ok := r.mine(r.slot(), headSize) && r.mine(r.Avail()+indexAt, 2)
	for _, k := range descs {
		ok = ok && r.mine(r.desc(k), descSize)
	}
	return ok
}

// mine tells whether bytes are the driver's, by writing them as they are.
func (r *Ring) mine(at uint32, n int) bool {
	s, _ := r.m.Read(at, n)
	return r.m.Write(at, s) == api.OK
}

// lend lends all buffers that are In, or none, if a byte of one is the ring's or is lent: by one of the others too.
func (r *Ring) lend(l []api.Buf) bool {
	for i, b := range l {
		if b.In && (r.over(b) || r.m.Lend(span(b)) != api.OK) {
			r.home(l[:i])
			return false
		}
	}
	return true
}

// over tells whether a byte of a buffer is the ring's.
func (r *Ring) over(b api.Buf) bool {
	return b.At < r.at+uint32(Size(r.size())) && r.at < b.At+b.Len
}

// writer is a function that writes buffers into these descriptors, one by one with each call, and links each to the next.
func (r *Ring) writer(descs []uint16) func(b api.Buf) {
	k := 0
	return func(b api.Buf) {
		at := r.desc(descs[k])
		r.taken[descs[k]] = true
		k++
		var flags, next uint16
		if k < len(descs) {
			flags, next = flagNext, descs[k]
		}
		if b.In {
			flags |= flagWrite
		}
		r.m.Put64(at, uint64(b.At))
		r.m.Put32(at+8, b.Len)
		r.m.Put16(at+12, flags)
		r.m.Put16(at+14, next)
	}
}

// offer shows a head to the device: the index is written last, for from then on the device may look.
func (r *Ring) offer(head uint16) {
	r.m.Put16(r.slot(), head)
	r.index++
	r.m.Put16(r.Avail()+indexAt, r.index)
}

// desc is the place of a descriptor.
func (r *Ring) desc(k uint16) uint32 { return r.at + descSize*uint32(k) }

// slot is the place in the available part of the head that is offered next.
func (r *Ring) slot() uint32 {
	return r.Avail() + listAt + headSize*uint32(int(r.index)%r.size())
}
