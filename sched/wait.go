package sched

import (
	"cmp"
	"slices"

	"pharos/api"
)

// wait is where a task waits, and till when.
type wait struct {
	queue uint32
	until uint64 // 0: without end
}

// ends tells whether there is a time at which it is over.
func (w wait) ends() bool { return w.until != 0 }

// Wait lets the one that runs wait, the last of that queue, till a time, or without end.
func (s *Sched) Wait(queue uint32, until uint64) api.Errno {
	if e := s.refused(); e != api.OK {
		return e
	}
	w := wait{queue, until}
	if w.ends() && (until <= s.now || until >= api.MaxClock) {
		return api.ErrArg
	}
	t := s.stop()
	t.state, t.wait = api.TaskWaits, w
	s.waits = append(s.waits, t)
	return api.OK
}

// Wake makes the first most of a queue ready: how many these are.
func (s *Sched) Wake(queue uint32, most int) int {
	if s.none() {
		return 0
	}
	n := 0
	woken := s.take(func(w wait) bool {
		if w.queue != queue || n >= most {
			return false
		}
		n++
		return true
	})
	s.ready(api.OK, woken...)
	return n
}

// Tick says what time it is, and makes those ready whose time has come.
func (s *Sched) Tick(now uint64) api.Errno {
	if s.none() {
		return api.ErrNil
	}
	if now < s.now || now >= api.MaxClock {
		return api.ErrArg
	}
	s.now = now
	woken := s.take(func(w wait) bool { return w.ends() && w.until <= now })
	slices.SortStableFunc(woken, earlier) // stable: those of one time stay in the order in which they began to wait
	s.ready(api.ErrTime, woken...)
	return api.OK
}

func earlier(a, b *task) int { return cmp.Compare(a.until, b.until) }

// take takes out of those that wait whoever wakes; it asks of each of them once, in the order in which they began to wait.
func (s *Sched) take(wakes func(wait) bool) []*task {
	var woken, stay []*task
	for _, t := range s.waits {
		if wakes(t.wait) {
			woken = append(woken, t)
		} else {
			stay = append(stay, t)
		}
	}
	s.waits = stay
	return woken
}

// Now is the time.
func (s *Sched) Now() uint64 {
	if s.none() {
		return 0
	}
	return s.now
}

// Next is the least time till which one waits, if one does.
func (s *Sched) Next() (uint64, bool) {
	if s.none() {
		return 0, false
	}
	least, is := uint64(0), false
	for _, t := range s.waits {
		if t.ends() && (!is || t.until < least) {
			least, is = t.until, true
		}
	}
	return least, is
}
