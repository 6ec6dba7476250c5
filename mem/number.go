package mem

import (
	"math/bits"

	"pharos/api"
)

// number is what stands in memory with its lowest byte first.
type number interface{ uint16 | uint32 | uint64 }

// width is how many bytes a number of that type has.
func width[T number]() int { return bits.Len64(uint64(^T(0))) / 8 }

func get[T number](m *Mem, at uint32) (T, api.Errno) {
	if m.none() {
		return 0, api.ErrNil
	}
	b, e := m.part(at, width[T]())
	var x T
	for i := range b {
		x |= T(b[i]) << (8 * i)
	}
	return x, e
}

func put[T number](m *Mem, at uint32, x T) api.Errno {
	b := make([]byte, width[T]())
	for i := range b {
		b[i] = byte(x >> (8 * i))
	}
	return m.Write(at, string(b))
}

// U16 is the number of 2 bytes at that place.
func (m *Mem) U16(at uint32) (uint16, api.Errno) { return get[uint16](m, at) }

// U32 is the number of 4 bytes at that place.
func (m *Mem) U32(at uint32) (uint32, api.Errno) { return get[uint32](m, at) }

// U64 is the number of 8 bytes at that place.
func (m *Mem) U64(at uint32) (uint64, api.Errno) { return get[uint64](m, at) }

// Put16 writes a number of 2 bytes, for the driver.
func (m *Mem) Put16(at uint32, x uint16) api.Errno { return put(m, at, x) }

// Put32 writes a number of 4 bytes, for the driver.
func (m *Mem) Put32(at uint32, x uint32) api.Errno { return put(m, at, x) }

// Put64 writes a number of 8 bytes, for the driver.
func (m *Mem) Put64(at uint32, x uint64) api.Errno { return put(m, at, x) }
