package sched_test

import (
	"math"
	"slices"
	"testing"

	"pharos/api"
)

// P5.3: who waits is not in the row, neither picked nor woken by a queue that is another one.
func TestWait(t *testing.T) {
	p := fresh(t, 5, 1, 2)
	p.err("none runs", p.Wait(7, 0), api.ErrState)
	p.waits(1, 7, 0)
	p.state(1, api.TaskWaits)
	p.why(1, api.OK)
	p.row(2)
	p.err("none runs any more", p.Wait(7, 0), api.ErrState)
	p.wake(8, 5, 0)
	p.wake(0, 5, 0)
	p.wake(7, 5, 1)
	p.wake(7, 5, 0)
	p.row(2, 1)
	p.state(1, api.TaskReady)
}

// P5.3: till a time that is above the time and below MaxClock, or without end; at an error the task runs on.
func TestWaitUntil(t *testing.T) {
	for _, now := range []uint64{0, 1, 10, 1 << 40, api.MaxClock - 2} {
		for _, until := range []uint64{0, now + 1, api.MaxClock - 1} {
			p := fresh(t, 5, 1)
			p.ok("Tick", p.Tick(now))
			p.waits(1, 7, until)
			p.state(1, api.TaskWaits)
			p.next(until, until != 0)
		}
		for _, until := range []uint64{now, now - 1, 1, api.MaxClock, api.MaxClock + 1, 1 << 63, math.MaxUint64} {
			if until == 0 || until == now+1 {
				continue // these are right
			}
			p := fresh(t, 5, 1)
			p.ok("Tick", p.Tick(now))
			p.err("none runs", p.Wait(7, until), api.ErrState)
			p.pick(0, 1)
			p.err("Wait", p.Wait(7, until), api.ErrArg)
			p.state(1, api.TaskRuns)
			p.next(0, false)
			p.wake(7, 1, 0)
			p.ok("Yield", p.Yield())
		}
	}
	p := fresh(t, 5, 1)
	p.ok("Tick", p.Tick(api.MaxClock-1))
	p.pick(0, 1)
	p.err("there is no later time", p.Wait(7, api.MaxClock-1), api.ErrArg)
	p.ok("without end", p.Wait(7, 0))
}

// P5.4: the first most of a queue are ready, in the order in which they came to it, those of others are not.
func TestWake(t *testing.T) {
	p := fresh(t, 100, 5, 6, 7, 1, 2, 3, 4)
	for k, id := range []uint32{5, 6, 7, 1, 2} {
		p.waits(id, uint32(30+k%2), uint64(90-k))
	}
	p.row(3, 4)
	for _, most := range []int{0, -1, math.MinInt} {
		p.wake(30, most, 0)
	}
	p.row(3, 4)
	p.wake(30, 2, 2)
	p.row(3, 4, 5, 7)
	p.state(2, api.TaskWaits)
	p.waits(3, 30, 0)
	p.waits(4, 31, 0)
	p.wake(31, 1, 1)
	p.row(5, 7, 6)
	p.wake(30, math.MaxInt, 2)
	p.row(5, 7, 6, 2, 3)
	p.wake(31, 2, 2)
	p.row(5, 7, 6, 2, 3, 1, 4)
	for _, id := range count(7) {
		p.state(id, api.TaskReady)
		p.why(id, api.OK)
	}
	p.next(0, false)
}

// P5.4: queues are told apart by all of their number.
func TestWakeQueues(t *testing.T) {
	queues := []uint32{0, 1, 1 << 8, 1 << 16, 1 << 31, math.MaxUint32}
	p := fresh(t, 100, count(len(queues))...)
	for k, q := range queues {
		p.waits(uint32(k+1), q, 0)
	}
	for k, q := range queues {
		p.wake(q, 9, 1)
		p.row(count(k + 1)...)
	}
}

// P5.4: somebody runs while others are woken; it stays where it is.
func TestWakeBesideOneThatRuns(t *testing.T) {
	p := fresh(t, 100, 1, 2, 3)
	p.waits(1, 7, 0)
	p.waits(2, 8, 4)
	p.pick(0, 3)
	p.wake(7, 1, 1)
	p.ok("Tick", p.Tick(4))
	p.row(1, 2)
	p.state(3, api.TaskRuns)
	p.ok("Yield", p.Yield())
	p.row(1, 2, 3)
}

// P5.4: the time does not go back, and is below MaxClock; at an error nothing is done.
func TestTick(t *testing.T) {
	p := fresh(t, 5, 1)
	p.waits(1, 7, 6)
	for _, now := range []uint64{0, 0, 1, 5, 5} {
		p.ok("Tick", p.Tick(now))
		p.now(now)
		p.state(1, api.TaskWaits)
		p.next(6, true)
	}
	for _, now := range []uint64{4, 0, api.MaxClock, api.MaxClock + 1, math.MaxUint64} {
		p.err("Tick", p.Tick(now), api.ErrArg)
		p.now(5)
		p.state(1, api.TaskWaits)
	}
	p.ok("Tick", p.Tick(6))
	p.state(1, api.TaskReady)
	p.why(1, api.ErrTime)
	p.next(0, false)
	p.waits(1, 7, api.MaxClock-1)
	p.why(1, api.ErrTime) // it last became ready by Tick
	p.ok("Tick", p.Tick(api.MaxClock-2))
	p.state(1, api.TaskWaits)
	p.err("Tick", p.Tick(api.MaxClock), api.ErrArg)
	p.state(1, api.TaskWaits)
	p.ok("Tick", p.Tick(api.MaxClock-1))
	p.row(1)
	p.now(api.MaxClock - 1)
	p.ok("the same time", p.Tick(api.MaxClock-1))
	p.row(1)
}

// P5.4: whom a Tick wakes comes by its time, and, of one time, by the order in which it began to wait, whatever its number and its queue.
func TestTickOrder(t *testing.T) {
	p := fresh(t, 100, 9, 8, 7, 6, 5, 4, 3, 2, 1)
	for _, x := range [][3]int{{9, 1, 30}, {8, 2, 10}, {7, 1, 20}, {6, 3, 10}, {5, 1, 0}, {4, 2, 31}, {3, 1, 10}, {2, 5, 20}} {
		p.waits(uint32(x[0]), uint32(x[1]), uint64(x[2]))
	}
	p.row(1)
	p.next(10, true)
	p.ok("Tick", p.Tick(30))
	p.row(1, 8, 6, 3, 7, 2, 9)
	for _, id := range []uint32{8, 6, 3, 7, 2, 9} {
		p.why(id, api.ErrTime)
	}
	p.why(1, api.OK)
	p.state(5, api.TaskWaits)
	p.state(4, api.TaskWaits)
	p.next(31, true)
	p.ok("Tick", p.Tick(api.MaxClock-1))
	p.row(1, 8, 6, 3, 7, 2, 9, 4)
	p.state(5, api.TaskWaits) // without end
	p.next(0, false)
}

// P5.4: of one time, many: the order in which they began to wait stays, however many they are.
func TestTickOrderOfMany(t *testing.T) {
	p := fresh(t, api.MaxPatience, count(api.MaxTasks)...)
	var soon, late []uint32
	for k := range api.MaxTasks {
		id := uint32(k*37%api.MaxTasks + 1) // each of them once
		p.pick(uint64(slices.Index(p.Ready(), id)), id)
		until := uint64(8)
		if k%3 == 0 {
			until = 7
			soon = append(soon, id)
		} else {
			late = append(late, id)
		}
		p.ok("Wait", p.Wait(id%5, until))
	}
	p.row()
	p.ok("Tick", p.Tick(9))
	p.row(append(soon, late...)...)
}

// P5.4, P5.6: who is woken by its queue is no longer woken by its time, and the other way round.
func TestWokenOnce(t *testing.T) {
	p := fresh(t, 100, 1, 2)
	p.waits(1, 7, 5)
	p.wake(7, 1, 1)
	p.next(0, false)
	p.ok("Tick", p.Tick(5))
	p.row(2, 1)
	p.why(1, api.OK)
	p.waits(2, 7, 9)
	p.ok("Tick", p.Tick(9))
	p.wake(7, 5, 0)
	p.row(1, 2)
	p.why(2, api.ErrTime)

	p.waits(1, 7, 20) // an earlier time, and an earlier queue, are forgotten
	p.wake(7, 1, 1)
	p.pick(1, 1)
	p.ok("Wait", p.Wait(8, 0))
	p.ok("Tick", p.Tick(20))
	p.wake(7, 1, 0)
	p.state(1, api.TaskWaits)
	p.next(0, false)
	p.wake(8, 1, 1)
	p.row(2, 1)
	p.why(1, api.OK)
}

// P5.4: who waits anew is the last of its queue.
func TestLastOfTheQueue(t *testing.T) {
	p := fresh(t, 100, 1, 2, 3)
	for _, id := range []uint32{1, 2, 3} {
		p.waits(id, 7, 0)
	}
	p.wake(7, 1, 1)
	p.waits(1, 7, 0)
	p.wake(7, 3, 3)
	p.row(2, 3, 1)
}

// P5.5: Next is the least time till which one waits.
func TestNext(t *testing.T) {
	p := fresh(t, 100, 1, 2, 3, 4)
	p.waits(1, 1, 0)
	p.next(0, false)
	p.waits(2, 2, 50)
	p.next(50, true)
	p.waits(3, 3, 40)
	p.next(40, true)
	p.waits(4, 4, 60)
	p.next(40, true)
	p.ok("Tick", p.Tick(39))
	p.next(40, true)
	p.wake(3, 1, 1)
	p.next(50, true)
	p.ok("Tick", p.Tick(55))
	p.next(60, true)
	p.wake(4, 1, 1)
	p.next(0, false)
	p.state(1, api.TaskWaits)
}
