package vnet

import (
	"iter"

	"pharos/api"
	"pharos/mem"
	"pharos/ring"
)

// queue is what both directions have: a ring, and the buffers that go through it, each as a chain of its own.
type queue struct {
	*ring.Ring
	m    *mem.Mem
	pool *mem.Pool
	size int               // bytes of a buffer
	held map[uint16]uint32 // the places of buffers that the device has, by the heads of their chains
	lost int
}

// newQueue is a queue whose ring and pool are not made yet.
func newQueue(m *mem.Mem, c api.NetConf) queue {
	return queue{m: m, size: c.Buf, held: map[uint16]uint32{}}
}

// longest is how many bytes a frame has at most.
func (q *queue) longest() int { return min(api.MaxFrame, q.size-api.NetHead) }

// hand hands the device a buffer of the driver's; one that the ring does not take is free again.
func (q *queue) hand(b api.Buf) api.Errno {
	head, e := q.Add([]api.Buf{b})
	if e != api.OK {
		q.pool.Put(b.At)
		return e
	}
	q.held[head] = b.At
	return api.OK
}

// polled goes through the buffers that the device has used, till there is none or the ring is broken: a buffer's place, and how many bytes were written there. Whoever ranges over it says what becomes of the buffer, ahead of the next poll: once the ring is broken, nothing can be handed out any more.
func (q *queue) polled() iter.Seq2[uint32, uint32] {
	return func(yield func(at, n uint32) bool) {
		for {
			d, is, _ := q.Poll()
			if !is {
				return
			}
			at, mine := q.held[d.Head] // a chain that somebody else Added to the ring is passed over
			delete(q.held, d.Head)
			if mine && !yield(at, d.Len) {
				return
			}
		}
	}
}

// fault is ErrRing, if the ring is broken: there is no other error by which polling ends.
func (q *queue) fault() api.Errno {
	if q.Broken() {
		return api.ErrRing
	}
	return api.OK
}
