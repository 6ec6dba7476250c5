package ring

import "pharos/api"

// chain is one that waits: its buffers, and which descriptors it has.
type chain struct {
	bufs  []api.Buf
	descs []uint16
}

// room is how many bytes the device may write into the chain's buffers.
func (c chain) room() uint64 {
	var n uint64
	for _, b := range c.bufs {
		if b.In {
			n += uint64(b.Len)
		}
	}
	return n
}

// Poll is the next chain that the device has used, which waits no more; false, if there is none.
func (r *Ring) Poll() (api.Done, bool, api.Errno) {
	if r.none() {
		return api.Done{}, false, api.ErrNil
	}
	if r.broken {
		return api.Done{}, false, api.ErrRing
	}
	index, _ := r.m.U16(r.Used() + indexAt)
	ready := index - r.polled
	if ready == 0 {
		return api.Done{}, false, api.OK
	}
	d, ok := r.entry()
	if int(ready) > len(r.chains) || !ok {
		r.broken = true
		return api.Done{}, false, api.ErrRing
	}
	r.polled++
	r.release(d.Head)
	return d, true, api.OK
}

// entry is what the device says of the next chain, if that can be: a head of one that waits, and no more bytes than it has room for.
func (r *Ring) entry() (api.Done, bool) {
	at := r.Used() + listAt + entrySize*uint32(int(r.polled)%r.size())
	head, _ := r.m.U32(at)
	n, _ := r.m.U32(at + 4)
	c, ok := r.chains[uint16(head)]
	if !ok || head != uint32(uint16(head)) || uint64(n) > c.room() {
		return api.Done{}, false
	}
	return api.Done{Head: uint16(head), Len: n}, true
}

// release frees the descriptors of a chain, and takes its buffers back.
func (r *Ring) release(head uint16) {
	c := r.chains[head]
	delete(r.chains, head)
	for _, k := range c.descs {
		r.taken[k] = false
	}
	r.home(c.bufs)
}

// home takes all bytes of those buffers back that are In. Whoever else has the memory may have taken some of them back already: of such a buffer what is lent yet is taken back piece by piece.
func (r *Ring) home(l []api.Buf) {
	for _, b := range l {
		if b.In && r.m.Back(span(b)) != api.OK {
			r.pieces(b)
		}
	}
}

// pieces takes back what is lent of a buffer.
func (r *Ring) pieces(b api.Buf) {
	for _, s := range r.m.Lent() {
		from, to := max(s.At, b.At), min(s.At+s.Len, b.At+b.Len)
		if from < to {
			r.m.Back(api.Span{At: from, Len: to - from})
		}
	}
}

// span is where a buffer stands.
func span(b api.Buf) api.Span { return api.Span{At: b.At, Len: b.Len} }
