package mem

import "pharos/api"

// Pool is buffers of one size, side by side.
type Pool struct {
	*memory
	at, size uint32
	whose    []uint8 // by the buffers' numbers
}

// NewPool makes a pool of count buffers of size bytes each, from at on, all of them Free.
func NewPool(m *Mem, at uint32, size, count int) (*Pool, api.Errno) {
	if m.none() {
		return nil, api.ErrNil
	}
	if size < 1 || count < 1 || count > api.MaxPool {
		return nil, api.ErrArg
	}
	// A size above any memory's is told ahead of the product, which might not hold it.
	if size > api.MaxMem || !m.holds(at, size*count) {
		return nil, api.ErrOut
	}
	return &Pool{memory: m.memory, at: at, size: uint32(size), whose: make([]uint8, count)}, api.OK
}

// none tells a nil Pool, and one that NewPool did not make.
func (p *Pool) none() bool { return p == nil || p.memory == nil }

// Get is the place of the first buffer that is Free, which is the Driver's then.
func (p *Pool) Get() (uint32, api.Errno) {
	if p.none() {
		return 0, api.ErrNil
	}
	for i, w := range p.whose {
		if w == api.Free {
			p.whose[i] = api.Driver
			return p.at + uint32(i)*p.size, api.OK
		}
	}
	return 0, api.ErrFull
}

// Put frees a buffer of the Driver's.
func (p *Pool) Put(at uint32) api.Errno {
	i, e := p.held(at, api.Driver)
	if e == api.OK {
		p.whose[i] = api.Free
	}
	return e
}

// Give lends a buffer of the Driver's to the Device.
func (p *Pool) Give(at uint32) api.Errno {
	i, e := p.held(at, api.Driver)
	if e != api.OK {
		return e
	}
	if e = p.lend(api.Span{At: at, Len: p.size}); e == api.OK {
		p.whose[i] = api.Device
	}
	return e
}

// Take takes a buffer of the Device's back to the Driver.
func (p *Pool) Take(at uint32) api.Errno {
	i, e := p.held(at, api.Device)
	if e != api.OK {
		return e
	}
	if e = p.back(api.Span{At: at, Len: p.size}); e == api.OK {
		p.whose[i] = api.Driver
	}
	return e
}

// Whose tells whose the buffer at that place is.
func (p *Pool) Whose(at uint32) (uint8, api.Errno) {
	i, e := p.find(at)
	if e != api.OK {
		return 0, e
	}
	return p.whose[i], api.OK
}

// Left is how many buffers are Free.
func (p *Pool) Left() int {
	if p.none() {
		return 0
	}
	n := 0
	for _, w := range p.whose {
		if w == api.Free {
			n++
		}
	}
	return n
}

// find is the number of the buffer at that place.
func (p *Pool) find(at uint32) (int, api.Errno) {
	if p.none() {
		return 0, api.ErrNil
	}
	if at < p.at || (at-p.at)%p.size != 0 || (at-p.at)/p.size >= uint32(len(p.whose)) {
		return 0, api.ErrArg
	}
	return int((at - p.at) / p.size), api.OK
}

// held is the number of the buffer at that place, if it is whose.
func (p *Pool) held(at uint32, whose uint8) (int, api.Errno) {
	i, e := p.find(at)
	if e != api.OK {
		return 0, e
	}
	if p.whose[i] != whose {
		return 0, api.ErrState
	}
	return i, api.OK
}
