package mem

import (
	"slices"
	"sort"

	"pharos/api"
)

// end is the place behind a span's last byte. A span that may be ends far below where its sum would go round.
func end(s api.Span) uint32 { return s.At + s.Len }

// mayBe tells whether a span has bytes, and the memory has them all.
func (m *memory) mayBe(s api.Span) bool {
	return s.Len >= 1 && uint64(s.At)+uint64(s.Len) <= uint64(len(m.bytes))
}

// cut parts what is lent by a span that is not empty: lent spans ahead of it, those that have bytes of it, those behind it. Each is cut with its own end as capacity: what is appended to one must not be written over the next.
func (m *memory) cut(s api.Span) (ahead, in, behind []api.Span) {
	n := len(m.lent)
	i := sort.Search(n, func(k int) bool { return end(m.lent[k]) > s.At })
	j := sort.Search(n, func(k int) bool { return m.lent[k].At >= end(s) })
	return m.lent[:i:i], m.lent[i:j:j], m.lent[j:n:n]
}

// someLent tells whether one byte of s is lent: none is, of no bytes.
func (m *memory) someLent(s api.Span) bool {
	if s.Len == 0 {
		return false
	}
	_, in, _ := m.cut(s)
	return len(in) > 0
}

// allLent tells whether each byte of s is lent: of no bytes each is. Lent spans do not touch, so one of them must have them all.
func (m *memory) allLent(s api.Span) bool {
	if s.Len == 0 {
		return true
	}
	_, in, _ := m.cut(s)
	return len(in) == 1 && in[0].At <= s.At && end(s) <= end(in[0])
}

// lend lends a span, and joins it with those that it touches.
func (m *memory) lend(s api.Span) api.Errno {
	if !m.mayBe(s) {
		return api.ErrOut
	}
	ahead, in, behind := m.cut(s)
	if len(in) > 0 {
		return api.ErrLent
	}
	from, to := len(ahead), len(ahead)
	if from > 0 && end(ahead[from-1]) == s.At {
		from--
		s = api.Span{At: ahead[from].At, Len: ahead[from].Len + s.Len}
	}
	if len(behind) > 0 && behind[0].At == end(s) {
		to++
		s.Len += behind[0].Len
	}
	m.lent = slices.Replace(m.lent, from, to, s)
	return api.OK
}

// back takes a span back, and leaves lent what stands beside it.
func (m *memory) back(s api.Span) api.Errno {
	if !m.mayBe(s) {
		return api.ErrOut
	}
	if !m.allLent(s) {
		return api.ErrKept
	}
	ahead, in, _ := m.cut(s)
	m.lent = slices.Replace(m.lent, len(ahead), len(ahead)+1, without(in[0], s)...)
	return api.OK
}

// without is what is left of a span that has another one, when that is taken out of it: up to two spans.
func without(whole, s api.Span) []api.Span {
	var rest []api.Span
	if whole.At < s.At {
		rest = append(rest, api.Span{At: whole.At, Len: s.At - whole.At})
	}
	if end(s) < end(whole) {
		rest = append(rest, api.Span{At: end(s), Len: end(whole) - end(s)})
	}
	return rest
}
