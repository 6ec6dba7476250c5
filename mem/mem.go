// Package mem is layer 1: the memory of a guest, each byte of which is the driver's or lent to a device, and pools of buffers in it. See shared/doc/01-mem.md.
package mem

import "pharos/api"

// memory is what a Mem and the pools in it share. None of its methods is exported, so that a pool, which embeds it, has no calls but its own: one of a memory's would panic by way of a nil pool.
type memory struct {
	bytes []byte
	lent  []api.Span // rising; no two of them touch
}

// Mem is the memory of a guest, of which parts are lent to a device.
type Mem struct{ *memory }

// New makes a memory of so many bytes, all 0, all the driver's.
func New(size int) (*Mem, api.Errno) {
	if size < 1 || size > api.MaxMem {
		return nil, api.ErrArg
	}
	return &Mem{&memory{bytes: make([]byte, size)}}, api.OK
}

// none tells a nil Mem, and one that New did not make.
func (m *Mem) none() bool { return m == nil || m.memory == nil }

// Size is how many bytes the memory has.
func (m *Mem) Size() int {
	if m.none() {
		return 0
	}
	return len(m.bytes)
}

// Read is the n bytes from at on, whosever they are.
func (m *Mem) Read(at uint32, n int) (string, api.Errno) {
	if m.none() {
		return "", api.ErrNil
	}
	if n < 0 {
		return "", api.ErrArg
	}
	b, e := m.part(at, n)
	return string(b), e
}

// Write puts the bytes of s from at on, for the driver.
func (m *Mem) Write(at uint32, s string) api.Errno {
	if m.none() {
		return api.ErrNil
	}
	b, e := m.part(at, len(s))
	if e != api.OK {
		return e
	}
	if m.someLent(span(at, b)) {
		return api.ErrLent
	}
	copy(b, s)
	return api.OK
}

// Device puts the bytes of s from at on, for the device.
func (m *Mem) Device(at uint32, s string) api.Errno {
	if m.none() {
		return api.ErrNil
	}
	b, e := m.part(at, len(s))
	if e != api.OK {
		return e
	}
	if !m.allLent(span(at, b)) {
		return api.ErrKept
	}
	copy(b, s)
	return api.OK
}

// Lend lends the span to the device.
func (m *Mem) Lend(s api.Span) api.Errno {
	if m.none() {
		return api.ErrNil
	}
	return m.lend(s)
}

// Back takes the span back from the device.
func (m *Mem) Back(s api.Span) api.Errno {
	if m.none() {
		return api.ErrNil
	}
	return m.back(s)
}

// Lent is what is lent, rising, none next to another one.
func (m *Mem) Lent() []api.Span {
	if m.none() {
		return nil
	}
	return append([]api.Span(nil), m.lent...)
}

// holds tells whether n bytes, 0 or more, from at on end at the memory's end at the latest.
func (m *memory) holds(at uint32, n int) bool {
	return uint64(at)+uint64(n) <= uint64(len(m.bytes))
}

// part is the memory's own bytes, n of them from at on. Its capacity ends with them, so that nothing is reached behind them.
func (m *memory) part(at uint32, n int) ([]byte, api.Errno) {
	if !m.holds(at, n) {
		return nil, api.ErrOut
	}
	from, to := int(at), int(at)+n
	return m.bytes[from:to:to], api.OK
}

// span is where a part that begins at at stands.
func span(at uint32, part []byte) api.Span {
	return api.Span{At: at, Len: uint32(len(part))}
}
