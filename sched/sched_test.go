package sched_test

import (
	"math"
	"slices"
	"testing"

	"pharos/api"
	"pharos/sched"
)

// play is a Sched of which a test tells what it awaits.
type play struct {
	*sched.Sched
	t *testing.T
}

// fresh makes a Sched with tasks of these numbers.
func fresh(t *testing.T, patience int, ids ...uint32) *play {
	t.Helper()
	s, e := sched.New(patience)
	if s == nil || e != api.OK {
		t.Fatalf("New(%d): %v", patience, e)
	}
	p := &play{s, t}
	for _, id := range ids {
		p.ok("Spawn", s.Spawn(id))
	}
	return p
}

// count is the numbers from 1 to n.
func count(n int) []uint32 {
	var l []uint32
	for k := range n {
		l = append(l, uint32(k+1))
	}
	return l
}

func (p *play) ok(what string, e api.Errno) {
	p.t.Helper()
	p.err(what, e, api.OK)
}

func (p *play) err(what string, e, want api.Errno) {
	p.t.Helper()
	if e != want {
		p.t.Fatalf("%s: %v, want %v", what, e, want)
	}
}

// pick fails unless that one is picked.
func (p *play) pick(n uint64, want uint32) {
	p.t.Helper()
	if id, e := p.Pick(n); id != want || e != api.OK {
		p.t.Fatalf("Pick(%d): %d %v, want %d", n, id, e, want)
	}
}

// waits lets the first of the row wait.
func (p *play) waits(id, queue uint32, until uint64) {
	p.t.Helper()
	p.pick(0, id)
	p.ok("Wait", p.Wait(queue, until))
}

// wake fails unless so many wake.
func (p *play) wake(queue uint32, most, want int) {
	p.t.Helper()
	if n := p.Wake(queue, most); n != want {
		p.t.Fatalf("Wake(%d, %d): %d, want %d", queue, most, n, want)
	}
}

// row fails unless these are ready, in this order.
func (p *play) row(want ...uint32) {
	p.t.Helper()
	if l := p.Ready(); !slices.Equal(l, want) {
		p.t.Fatalf("Ready: %v, want %v", l, want)
	}
}

func (p *play) state(id uint32, want uint8) {
	p.t.Helper()
	if x := p.State(id); x != want {
		p.t.Fatalf("State(%d): %d, want %d", id, x, want)
	}
}

func (p *play) why(id uint32, want api.Errno) {
	p.t.Helper()
	if e := p.Why(id); e != want {
		p.t.Fatalf("Why(%d): %v, want %v", id, e, want)
	}
}

func (p *play) now(want uint64) {
	p.t.Helper()
	if x := p.Now(); x != want {
		p.t.Fatalf("Now: %d, want %d", x, want)
	}
}

func (p *play) next(want uint64, wantIs bool) {
	p.t.Helper()
	if x, is := p.Next(); x != want || is != wantIs {
		p.t.Fatalf("Next: %d %v, want %d %v", x, is, want, wantIs)
	}
}

// P5.1: the patience is from 1 to MaxPatience; beside an error there is no Sched.
func TestPatience(t *testing.T) {
	for _, x := range []int{1, 2, 100, api.MaxPatience - 1, api.MaxPatience} {
		if s, e := sched.New(x); s == nil || e != api.OK {
			t.Errorf("New(%d): %v", x, e)
		}
	}
	for _, x := range []int{0, -1, -api.MaxPatience, math.MinInt, api.MaxPatience + 1, 2 * api.MaxPatience, math.MaxInt} {
		if s, e := sched.New(x); s != nil || e != api.ErrArg {
			t.Errorf("New(%d): %v, want %v", x, e, api.ErrArg)
		}
	}
}

// P5.1, P5.5: a new Sched has no tasks, and its time is 0.
func TestNew(t *testing.T) {
	p := fresh(t, 3)
	p.row()
	p.now(0)
	p.next(0, false)
	p.wake(0, 9, 0)
	for _, id := range []uint32{0, 1, math.MaxUint32} {
		p.state(id, api.TaskNone)
		p.why(id, api.ErrNone)
	}
	if id, e := p.Pick(5); id != 0 || e != api.ErrNone {
		t.Errorf("Pick: %d %v", id, e)
	}
	p.err("Yield", p.Yield(), api.ErrState)
}

// P5.1, P5.5: who is spawned is ready, the last of the row, whatever its number.
func TestSpawn(t *testing.T) {
	p := fresh(t, 3)
	ids := []uint32{7, 0, math.MaxUint32, 3, 1 << 31}
	for k, id := range ids {
		p.state(id, api.TaskNone)
		p.ok("Spawn", p.Spawn(id))
		p.state(id, api.TaskReady)
		p.why(id, api.OK)
		p.row(ids[:k+1]...)
	}
	p.pick(0, 7)
	p.ok("Spawn beside one that runs", p.Spawn(9))
	p.row(0, math.MaxUint32, 3, 1<<31, 9)
	p.state(7, api.TaskRuns)
}

// P5.1: a number is there as long as its task is ready, runs, or waits; once it has ended, it is free.
func TestSpawnThere(t *testing.T) {
	p := fresh(t, 3, 1, 2)
	p.err("of one that is ready", p.Spawn(1), api.ErrThere)
	p.pick(0, 1)
	p.err("of one that runs", p.Spawn(1), api.ErrThere)
	p.ok("Wait", p.Wait(4, 0))
	p.err("of one that waits", p.Spawn(1), api.ErrThere)
	p.row(2)
	p.state(1, api.TaskWaits)
	p.wake(4, 1, 1)
	p.pick(1, 1)
	p.ok("End", p.End())
	p.ok("of one that has ended", p.Spawn(1))
	p.row(2, 1)
	p.pick(1, 1)
}

// P5.1: MaxTasks tasks there are at the most, wherever they are; one that is there is told ahead of that.
func TestSpawnFull(t *testing.T) {
	p := fresh(t, api.MaxPatience, count(api.MaxTasks-1)...)
	p.ok("the last one", p.Spawn(api.MaxTasks))
	p.err("one more", p.Spawn(api.MaxTasks+1), api.ErrFull)
	p.err("one that is there", p.Spawn(5), api.ErrThere)
	p.waits(1, 7, 0)
	p.pick(0, 2)
	p.err("beside one that waits and one that runs", p.Spawn(1000), api.ErrFull)
	p.err("the one that waits", p.Spawn(1), api.ErrThere)
	p.err("the one that runs", p.Spawn(2), api.ErrThere)
	p.state(1000, api.TaskNone)
	p.row(count(api.MaxTasks)[2:]...)
	p.ok("End", p.End())
	p.ok("once there is room", p.Spawn(1000))
	p.err("and no more", p.Spawn(1001), api.ErrFull)
	p.row(append(count(api.MaxTasks)[2:], 1000)...)
}

// P5.5, R5: the row that is told is the caller's.
func TestReadyIsNew(t *testing.T) {
	p := fresh(t, 3, 1, 2, 3)
	l := p.Ready()
	l[0], l[1] = 9, 9
	_ = append(l, 8)
	p.row(1, 2, 3)
	kept := p.Ready()
	p.pick(0, 1)
	p.ok("Yield", p.Yield())
	if !slices.Equal(kept, []uint32{1, 2, 3}) {
		t.Errorf("a row that was told has changed: %v", kept)
	}
	p.row(2, 3, 1)
}

// R3: a nil pointer, and a value that New did not make, do nothing, and answer ErrNil ahead of all else.
func TestNil(t *testing.T) {
	for _, s := range []*sched.Sched{nil, {}, new(sched.Sched)} {
		for range 2 { // the second time nothing has been done
			id, pick := s.Pick(0)
			errs := []api.Errno{
				s.Spawn(1), pick, s.Yield(), s.Wait(1, 0), s.Wait(1, api.MaxClock), s.End(),
				s.Tick(1), s.Tick(api.MaxClock), s.Why(1),
			}
			for k, e := range errs {
				if e != api.ErrNil {
					t.Errorf("call %d: %v", k, e)
				}
			}
			next, is := s.Next()
			if id != 0 || s.Wake(1, 1) != 0 || s.State(1) != api.TaskNone || len(s.Ready()) != 0 || s.Now() != 0 || next != 0 || is {
				t.Error("what is not zero", id, next, is)
			}
		}
	}
}

// R6: two of them know nothing of each other.
func TestTwo(t *testing.T) {
	p, q := fresh(t, 2, 1, 2), fresh(t, 2, 1, 2)
	p.waits(1, 7, 5)
	q.row(1, 2)
	q.wake(7, 1, 0)
	q.ok("Tick", q.Tick(9))
	p.state(1, api.TaskWaits)
	p.now(0)
	q.next(0, false)
}

// The chapter's examples, line by line.
func TestExamples(t *testing.T) {
	p := fresh(t, 2, 1, 2, 3)
	p.pick(1, 2)
	p.ok("Yield", p.Yield())
	p.pick(1, 3)
	p.ok("Yield", p.Yield())
	p.row(1, 2, 3)
	p.pick(1, 1)
	p.ok("Wait", p.Wait(7, 5))
	p.ok("Tick", p.Tick(5))
	p.state(1, api.TaskReady)
	p.why(1, api.ErrTime)
	p.row(2, 3, 1)
	p.pick(0, 2)
	p.ok("Wait", p.Wait(7, 0))
	p.wake(7, 9, 1)
	p.why(2, api.OK)
}
