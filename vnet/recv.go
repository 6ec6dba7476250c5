package vnet

import "pharos/api"

// receiver is the direction in which frames come.
type receiver struct{ queue }

// What the head ahead of a frame has, as numbers of two bytes.
const (
	kindAt  = 0 // flags and kind, a byte each: both are 0, or the frame is not whole as it stands
	countAt = 10
)

// fill hands the device every free buffer, in order.
func (r *receiver) fill() api.Errno {
	for r.pool.Left() > 0 {
		at, _ := r.pool.Get()
		if e := r.hand(api.Buf{At: at, Len: uint32(r.size), In: true}); e != api.OK {
			return e
		}
	}
	return api.OK
}

// recv is the frames that came. What is in a buffer is read while it is the driver's.
func (r *receiver) recv() ([]string, api.Errno) {
	r.fill() // buffers that the ring did not take before: there are none, as long as nobody else lends what is the ring's
	var frames []string
	for at, n := range r.polled() {
		if s, is := r.frame(at, n); is {
			frames = append(frames, s)
		} else {
			r.lost++
		}
		r.pool.Put(at)
		r.fill()
	}
	return frames, r.fault()
}

// frame is the frame in a buffer into which the device wrote n bytes, if there is one.
func (r *receiver) frame(at, n uint32) (string, bool) {
	size := int(n) - api.NetHead
	if size < api.MinFrame || size > r.longest() {
		return "", false
	}
	kind, _ := r.m.U16(at + kindAt)
	count, _ := r.m.U16(at + countAt)
	if kind != 0 || count != 1 {
		return "", false
	}
	s, e := r.m.Read(at+api.NetHead, size)
	return s, e == api.OK
}
