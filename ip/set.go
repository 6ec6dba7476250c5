package ip

import (
	"cmp"
	"slices"
	"strings"

	"pharos/api"
)

// piece is some bytes of a packet, and where they stand in it.
type piece struct {
	at   int
	data string
	more bool
	ttl  uint8
}

// set is the pieces that came of a packet.
type set struct {
	until  uint64
	pieces []piece // by their places; none lies over another one, and behind one without more there is none
}

func (c piece) end() int { return c.at + len(c.data) }

// wrong is why it can be a piece of nothing, whatever else came.
func (c piece) wrong() api.Errno {
	if c.data == "" || c.more && len(c.data)%unit != 0 {
		return api.ErrForm
	}
	if c.end() > api.MaxWhole {
		return api.ErrLong
	}
	return api.OK
}

// same tells a piece that came twice: perhaps by two ways, so its TTL counts for nothing.
func (c piece) same(d piece) bool { return c.at == d.at && c.more == d.more && c.data == d.data }

// fits tells whether another one may stand behind it.
func (c piece) fits(behind piece) bool { return c.more && c.end() <= behind.at }

func byPlace(c, d piece) int { return cmp.Compare(c.at, d.at) }

// add takes in a piece. With an error the set is not right any more.
func (s *set) add(c piece) api.Errno {
	if slices.ContainsFunc(s.pieces, c.same) {
		return api.OK
	}
	c.data = strings.Clone(c.data)
	s.pieces = append(s.pieces, c)
	slices.SortFunc(s.pieces, byPlace)
	for k, behind := range s.pieces[1:] {
		if !s.pieces[k].fits(behind) {
			return api.ErrOver
		}
	}
	return api.OK
}

// whole tells whether all is there.
func (s *set) whole() bool {
	end, more := 0, true
	for _, c := range s.pieces {
		if c.at != end {
			return false
		}
		end, more = c.end(), c.more
	}
	return !more
}

// packet is what a set makes that is whole.
func (s *set) packet(n name) api.Packet {
	var data strings.Builder
	for _, c := range s.pieces {
		data.WriteString(c.data)
	}
	return api.Packet{Src: n.src, Dst: n.dst, Proto: n.proto, TTL: s.pieces[0].ttl, ID: n.id, Data: data.String()}
}
