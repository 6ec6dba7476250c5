package sched_test

import (
	"math"
	"slices"
	"testing"

	"pharos/api"
)

// P5.2: as long as nobody was passed over too often, n modulo how many are ready names the one that runs; it is in the row no more.
func TestPickByNumber(t *testing.T) {
	for _, x := range []struct {
		n    uint64
		want uint32
	}{{0, 10}, {1, 20}, {4, 50}, {5, 10}, {8, 40}, {math.MaxUint64, 10}, {math.MaxUint64 - 1, 50}, {1 << 63, 40}, {1 << 32, 20}} {
		p := fresh(t, 1, 10, 20, 30, 40, 50)
		p.pick(x.n, x.want)
		p.state(x.want, api.TaskRuns)
		p.why(x.want, api.OK)
		left := []uint32{10, 20, 30, 40, 50}
		p.row(slices.DeleteFunc(left, func(id uint32) bool { return id == x.want })...)
		for _, id := range p.Ready() {
			p.state(id, api.TaskReady)
		}
	}
}

// P5.2: whoever runs, runs till it yields, waits or ends; that is told ahead of that none is ready.
func TestPickErrors(t *testing.T) {
	p := fresh(t, 2, 1)
	p.pick(9, 1)
	refuse := func(want api.Errno) {
		t.Helper()
		if id, e := p.Pick(1); id != 0 || e != want {
			t.Fatalf("Pick: %d %v, want %v", id, e, want)
		}
	}
	refuse(api.ErrState)
	p.state(1, api.TaskRuns)
	p.ok("Spawn", p.Spawn(2))
	p.ok("Spawn", p.Spawn(3))
	refuse(api.ErrState)
	refuse(api.ErrState)
	p.row(2, 3)
	p.ok("Wait", p.Wait(0, 0))
	p.pick(1, 3) // nobody was passed over by what was refused
	p.ok("Yield", p.Yield())
	p.waits(2, 0, 0)
	p.waits(3, 0, 0)
	refuse(api.ErrNone)
	p.wake(0, 1, 1)
	p.pick(7, 1)
	p.ok("End", p.End())
	refuse(api.ErrNone)
}

// P5.2: who was passed over just patience times comes ahead of whom n names, who was passed over once less does not.
func TestPatienceIsOver(t *testing.T) {
	for _, patience := range []int{1, 2, 3, 17, api.MaxPatience - 1, api.MaxPatience} {
		p := fresh(t, patience, 1, 2)
		for k := range patience {
			p.ok("Spawn", p.Spawn(3)) // the last of three, and never passed over
			p.pick(2, 3)
			p.state(1, api.TaskReady)
			p.ok("End", p.End())
			if k == patience-2 {
				break
			}
		}
		if patience > 1 { // once less
			p.pick(1, 2)
			p.ok("End", p.End())
		}
		p.ok("Spawn", p.Spawn(4))
		p.ok("Spawn", p.Spawn(5))
		p.pick(2, 1) // just patience times
	}
}

// P5.2: of those that were passed over too often the first of the row comes, till there is none; then n is heard again.
func TestPatienceInOrder(t *testing.T) {
	p := fresh(t, 3, 5, 4, 3, 2, 1)
	for range 3 {
		p.pick(4, 1)
		p.ok("Yield", p.Yield())
	}
	p.row(5, 4, 3, 2, 1)
	p.ok("Spawn", p.Spawn(9))
	for _, want := range []uint32{5, 4, 3} {
		p.pick(5, want)
		p.ok("End", p.End())
	}
	p.pick(1, 2) // passed over six times
	p.ok("End", p.End())
	p.pick(1, 1) // four picks were since it became ready: its patience is over too
	p.ok("Yield", p.Yield())
	p.row(9, 1)
	p.pick(1, 9)
	p.ok("Yield", p.Yield())
	p.pick(1, 9) // 1 was passed over once
}

// P5.2: somebody's patience begins anew whenever it becomes ready: by Yield, by Wake, by Tick, by Spawn.
func TestPatienceBeginsAnew(t *testing.T) {
	again := map[string]func(*play){
		"Yield": func(p *play) { p.ok("Yield", p.Yield()) },
		"Wake":  func(p *play) { p.ok("Wait", p.Wait(6, 0)); p.wake(6, 1, 1) },
		"Tick":  func(p *play) { p.ok("Wait", p.Wait(6, 8)); p.ok("Tick", p.Tick(8)) },
		"Spawn": func(p *play) { p.ok("End", p.End()); p.ok("Spawn", p.Spawn(1)) },
	}
	for name, ready := range again {
		t.Run(name, func(t *testing.T) {
			p := fresh(t, 2, 1, 2)
			for range 2 {
				p.pick(1, 2)
				p.ok("Yield", p.Yield())
			}
			p.pick(1, 1) // passed over twice
			ready(p)
			p.row(2, 1)
			p.pick(0, 2) // passed over once
			p.ok("End", p.End())
			p.ok("Spawn", p.Spawn(3))
			p.pick(1, 3) // 1 was passed over once since it became ready
			p.ok("End", p.End())
			p.ok("Spawn", p.Spawn(4))
			p.pick(1, 1) // now twice
		})
	}
}

// P5.2: who waits is not passed over, however many are picked meanwhile.
func TestWhoWaitsIsNotPassedOver(t *testing.T) {
	p := fresh(t, 2, 1, 2)
	p.waits(1, 7, 0)
	for range 6 {
		p.pick(0, 2)
		p.ok("Yield", p.Yield())
	}
	p.wake(7, 1, 1)
	p.ok("Spawn", p.Spawn(3))
	for range 2 {
		p.pick(2, 3)
		p.ok("Yield", p.Yield())
	}
	p.row(2, 1, 3)
	p.pick(2, 2)
	p.ok("End", p.End())
	p.pick(1, 1)
}

// P5.3: who yields is the last of the row, and why it is ready is no longer the time.
func TestYield(t *testing.T) {
	p := fresh(t, 5, 1, 2, 3)
	p.err("none runs", p.Yield(), api.ErrState)
	p.row(1, 2, 3)
	p.pick(1, 2)
	p.ok("Yield", p.Yield())
	p.row(1, 3, 2)
	p.state(2, api.TaskReady)
	p.err("none runs any more", p.Yield(), api.ErrState)
	p.row(1, 3, 2)
	p.pick(1, 3)
	p.ok("Wait", p.Wait(1, 1))
	p.ok("Tick", p.Tick(1))
	p.row(1, 2, 3)
	p.pick(2, 3)
	p.why(3, api.ErrTime) // it runs: it last became ready by Tick
	p.ok("Yield", p.Yield())
	p.why(3, api.OK)
}

// P5.3: who ends is no more: nothing is told of it, nobody is it.
func TestEnd(t *testing.T) {
	p := fresh(t, 5, 1, 2)
	p.err("none runs", p.End(), api.ErrState)
	p.pick(0, 1)
	p.ok("End", p.End())
	p.state(1, api.TaskNone)
	p.why(1, api.ErrNone)
	p.row(2)
	p.err("none runs any more", p.End(), api.ErrState)
	p.state(2, api.TaskReady)
	p.waits(2, 3, 4)
	p.ok("Tick", p.Tick(4))
	p.pick(0, 2)
	p.ok("End", p.End())
	p.why(2, api.ErrNone)
	p.ok("Spawn", p.Spawn(2))
	p.why(2, api.OK) // another task, of the same number
	p.next(0, false)
	p.wake(3, 1, 0)
}

// P5.6: whoever is ready is picked at the latest by as many picks as the patience and the tasks there are, whatever is picked.
func TestNobodyIsForgotten(t *testing.T) {
	for _, x := range [][2]int{{1, 1}, {1, 2}, {2, 2}, {3, 7}, {40, 9}, {1, api.MaxTasks}, {api.MaxPatience, 2}, {api.MaxPatience, api.MaxTasks}} {
		patience, tasks := x[0], x[1]
		p := fresh(t, patience, count(tasks)...)
		since := make([]int, tasks+1) // which pick was the last ahead of which it became ready
		for k := 1; k <= 3*(patience+tasks); k++ {
			id, e := p.Pick(uint64(len(p.Ready()) - 1)) // always the last one
			if e != api.OK || k-since[id] > patience+tasks {
				t.Fatalf("patience %d, %d tasks: %d was ready for %d picks: %v", patience, tasks, id, k-since[id], e)
			}
			since[id] = k
			p.ok("Yield", p.Yield())
		}
		for id := 1; id <= tasks; id++ {
			if 3*(patience+tasks)-since[id] > patience+tasks {
				t.Fatalf("patience %d, %d tasks: %d is not picked", patience, tasks, id)
			}
		}
	}
}
