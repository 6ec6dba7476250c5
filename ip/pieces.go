package ip

import (
	"maps"
	"strings"

	"pharos/api"
)

// Pieces is packets that are put together.
type Pieces struct {
	most int // at least 1, if New made it
	life uint64
	sets map[name]*set
}

// name is what pieces have in common that belong together.
type name struct {
	src, dst uint32
	proto    uint8
	id       uint16
}

// New makes what has no pieces, of at most so many sets, each for so long.
func New(most int, life uint64) (*Pieces, api.Errno) {
	if most < 1 || most > api.MaxSets || life < 1 || life > api.MaxLife {
		return nil, api.ErrArg
	}
	return &Pieces{most: most, life: life, sets: map[name]*set{}}, api.OK
}

// none tells a nil Pieces, and one that New did not make.
func (x *Pieces) none() bool { return x == nil || x.most == 0 }

// Take takes in a packet: it, if it came whole, or the one that is whole by this piece.
func (x *Pieces) Take(p api.Packet, now uint64) (api.Packet, bool, api.Errno) {
	if x.none() {
		return api.Packet{}, false, api.ErrNil
	}
	if now >= api.MaxClock {
		return api.Packet{}, false, api.ErrArg
	}
	maps.DeleteFunc(x.sets, func(_ name, s *set) bool { return s.until <= now })
	if isPiece(p) {
		return x.gather(p, now)
	}
	p.Data = strings.Clone(p.Data)
	return p, true, api.OK
}

func isPiece(p api.Packet) bool { return p.More || p.Off != 0 }

// gather puts a piece into its set, which goes if the piece can't be right, and once it is whole.
func (x *Pieces) gather(p api.Packet, now uint64) (api.Packet, bool, api.Errno) {
	n := name{src: p.Src, dst: p.Dst, proto: p.Proto, id: p.ID}
	c := piece{at: unit * int(p.Off), data: p.Data, more: p.More, ttl: p.TTL}
	if e := c.wrong(); e != api.OK {
		delete(x.sets, n)
		return api.Packet{}, false, e
	}
	s := x.of(n, now)
	if s == nil {
		return api.Packet{}, false, api.ErrFull
	}
	if e := s.add(c); e != api.OK {
		delete(x.sets, n)
		return api.Packet{}, false, e
	}
	if !s.whole() {
		return api.Packet{}, false, api.OK
	}
	delete(x.sets, n)
	return s.packet(n), true, api.OK
}

// of is the set of that name, which begins now, if it was not there: nil, if there is no room for it.
func (x *Pieces) of(n name, now uint64) *set {
	if s := x.sets[n]; s != nil || len(x.sets) >= x.most {
		return s
	}
	s := &set{until: now + x.life}
	x.sets[n] = s
	return s
}

// Waits is how many sets there are.
func (x *Pieces) Waits() int {
	if x.none() {
		return 0
	}
	return len(x.sets)
}
