package vnet

import (
	"strings"

	"pharos/api"
)

// sender is the direction in which frames go.
type sender struct{ queue }

// send hands the device a frame, if there is room, now that what it has used is free again.
func (s *sender) send(frame string) api.Errno {
	if len(frame) < api.MinFrame {
		return api.ErrArg
	}
	if len(frame) > s.longest() {
		return api.ErrLong
	}
	for at := range s.polled() {
		s.pool.Put(at)
	}
	if e := s.fault(); e != api.OK {
		return e
	}
	e := s.post(frame)
	if e != api.OK {
		s.lost++
	}
	return e
}

// post writes a frame, behind a head that is all 0, into a free buffer, and hands that out with just these bytes.
func (s *sender) post(frame string) api.Errno {
	at, e := s.pool.Get()
	if e != api.OK {
		return e
	}
	text := strings.Repeat("\x00", api.NetHead) + frame
	if e := s.m.Write(at, text); e != api.OK {
		s.pool.Put(at)
		return e
	}
	return s.hand(api.Buf{At: at, Len: uint32(len(text))})
}
