package sched_test

import (
	"math/rand"
	"slices"
	"sort"
	"testing"

	"pharos/api"
	"pharos/sched"
)

// model is a Sched told by when what happened to each task: rows and queues are not kept, but looked up in that.
type model struct {
	patience int
	time     uint64
	events   int // how many so far: each gets the next number
	picks    int
	tasks    []life
}

// life is a task: what it does, since which event, and since which pick; and how many tasks there were then.
type life struct {
	id     uint32
	does   uint8
	since  int
	picks  int
	there  int
	byTime bool
	queue  uint32
	until  uint64
}

// those is the places of the tasks that do this, by when they began to.
func (o *model) those(does uint8) []int {
	var l []int
	for k, x := range o.tasks {
		if x.does == does {
			l = append(l, k)
		}
	}
	sort.Slice(l, func(a, b int) bool { return o.tasks[l[a]].since < o.tasks[l[b]].since })
	return l
}

func (o *model) find(id uint32) int {
	return slices.IndexFunc(o.tasks, func(x life) bool { return x.id == id })
}

func (o *model) now(k int, does uint8) {
	o.events++
	x := &o.tasks[k]
	x.does, x.since, x.picks, x.there = does, o.events, o.picks, len(o.tasks)
}

func (o *model) spawn(id uint32) api.Errno {
	if o.find(id) >= 0 {
		return api.ErrThere
	}
	if len(o.tasks) >= 256 {
		return api.ErrFull
	}
	o.tasks = append(o.tasks, life{id: id})
	o.now(len(o.tasks)-1, 1)
	return api.OK
}

func (o *model) pick(n uint64) (uint32, api.Errno) {
	if len(o.those(2)) > 0 {
		return 0, api.ErrState
	}
	row := o.those(1)
	if len(row) == 0 {
		return 0, api.ErrNone
	}
	k := row[n%uint64(len(row))]
	for i := len(row) - 1; i >= 0; i-- {
		if o.picks-o.tasks[row[i]].picks >= o.patience {
			k = row[i]
		}
	}
	o.picks++
	o.now(k, 2)
	return o.tasks[k].id, api.OK
}

// leave lets the one that runs do something else.
func (o *model) leave(does uint8, queue uint32, until uint64) api.Errno {
	l := o.those(2)
	if len(l) == 0 {
		return api.ErrState
	}
	if does == 3 && until != 0 && (until <= o.time || until >= 1<<62) {
		return api.ErrArg
	}
	x := &o.tasks[l[0]]
	switch does {
	case 0:
		o.tasks = slices.Delete(o.tasks, l[0], l[0]+1)
		return api.OK
	case 1:
		x.byTime = false
	case 3:
		x.queue, x.until = queue, until
	}
	o.now(l[0], does)
	return api.OK
}

func (o *model) wake(queue uint32, most int) int {
	n := 0
	for _, k := range o.those(3) {
		if o.tasks[k].queue == queue && n < most {
			o.tasks[k].byTime = false
			o.now(k, 1)
			n++
		}
	}
	return n
}

func (o *model) tick(now uint64) api.Errno {
	if now < o.time || now >= 1<<62 {
		return api.ErrArg
	}
	o.time = now
	for { // one by one: the earliest of those that wait, as long as its time has come
		first := -1
		for _, k := range o.those(3) {
			if u := o.tasks[k].until; u > 0 && u <= now && (first < 0 || u < o.tasks[first].until) {
				first = k
			}
		}
		if first < 0 {
			return api.OK
		}
		o.tasks[first].byTime = true
		o.now(first, 1)
	}
}

func (o *model) next() (uint64, bool) {
	var l []uint64
	for _, k := range o.those(3) {
		if o.tasks[k].until != 0 {
			l = append(l, o.tasks[k].until)
		}
	}
	if len(l) == 0 {
		return 0, false
	}
	return slices.Min(l), true
}

// game is a Sched and its model, to which the same is done.
type game struct {
	t      *testing.T
	d      *rand.Rand
	s      *sched.Sched
	o      *model
	ids    int
	queues int
	pace   int
	count  *tally
}

// tally is how often something was seen, in all games.
type tally struct{ late, woken, ticked, full, forgotten, args int }

func newGame(t *testing.T, d *rand.Rand, count *tally) *game {
	patience := 1 + d.Intn(6)
	if d.Intn(4) == 0 {
		patience = 1 + d.Intn(256)
	}
	s, e := sched.New(patience)
	if e != api.OK {
		t.Fatalf("New(%d): %v", patience, e)
	}
	g := &game{t: t, d: d, s: s, o: &model{patience: patience}, ids: 1 + d.Intn(12), queues: 1 + d.Intn(4), pace: 1 + d.Intn(20), count: count}
	if d.Intn(6) == 0 {
		g.ids = 300
		for id := range uint32(250) {
			g.same("Spawn", s.Spawn(id), g.o.spawn(id))
		}
	}
	return g
}

func (g *game) same(what string, e, want api.Errno) {
	g.t.Helper()
	if e != want {
		g.t.Fatalf("%s: %v, want %v", what, e, want)
	}
	if e == api.ErrFull {
		g.count.full++
	}
	if e == api.ErrArg {
		g.count.args++
	}
}

func (g *game) spawn() {
	id := uint32(g.d.Intn(g.ids))
	g.same("Spawn", g.s.Spawn(id), g.o.spawn(id))
}

func (g *game) pick() {
	n := g.d.Uint64()
	if g.d.Intn(2) == 0 {
		n = uint64(g.d.Intn(4))
	}
	before := slices.Clone(g.o.tasks)
	named := uint32(0)
	if row := g.o.those(1); len(row) > 0 {
		named = g.o.tasks[row[n%uint64(len(row))]].id
	}
	id, e := g.s.Pick(n)
	want, wantE := g.o.pick(n)
	g.same("Pick", e, wantE)
	if id != want {
		g.t.Fatalf("Pick(%d): %d, want %d", n, id, want)
	}
	if e != api.OK {
		return
	}
	if id != named {
		g.count.late++
	}
	for _, x := range before { // P5.6
		if x.does == 1 && x.id != id && g.o.picks-x.picks >= g.o.patience+x.there {
			g.count.forgotten++
		}
	}
}

// time is one that is mostly right for a wait, or a tick.
func (g *game) time() uint64 {
	switch g.d.Intn(30) {
	case 0:
		return g.o.time
	case 1:
		return g.o.time - uint64(g.d.Intn(3))
	case 2:
		return api.MaxClock + uint64(g.d.Intn(3))
	case 3:
		return g.d.Uint64()
	default:
		return g.o.time + 1 + uint64(g.d.Intn(g.pace))
	}
}

func (g *game) wait() {
	queue, until := uint32(g.d.Intn(g.queues)), uint64(0)
	if g.d.Intn(3) > 0 {
		until = g.time()
	}
	g.same("Wait", g.s.Wait(queue, until), g.o.leave(3, queue, until))
}

func (g *game) wake() {
	queue, most := uint32(g.d.Intn(g.queues+1)), g.d.Intn(6)-1
	n := g.s.Wake(queue, most)
	if want := g.o.wake(queue, most); n != want {
		g.t.Fatalf("Wake(%d, %d): %d, want %d", queue, most, n, want)
	}
	g.count.woken += n
}

func (g *game) tick() {
	now := g.time()
	if now > g.o.time+1000 && now < api.MaxClock { // or there would soon be no later time
		now = g.o.time
	}
	before := len(g.o.those(3))
	g.same("Tick", g.s.Tick(now), g.o.tick(now))
	g.count.ticked += before - len(g.o.those(3))
}

func (g *game) step() {
	switch x := g.d.Intn(20); {
	case x < 7:
		g.pick()
	case x < 9:
		g.same("Yield", g.s.Yield(), g.o.leave(1, 0, 0))
	case x < 14:
		g.wait()
	case x < 15 && g.d.Intn(2) == 0:
		g.same("End", g.s.End(), g.o.leave(0, 0, 0))
	case x < 17:
		g.wake()
	case x < 18:
		g.tick()
	default:
		g.spawn()
	}
	g.look()
}

// look fails unless all that can be seen is as the model has it; and, P5.6, unless each task is in one place alone.
func (g *game) look() {
	var row []uint32
	for _, k := range g.o.those(1) {
		row = append(row, g.o.tasks[k].id)
	}
	if l := g.s.Ready(); !slices.Equal(l, row) {
		g.t.Fatalf("Ready: %v, want %v", l, row)
	}
	for id := range uint32(g.ids + 1) {
		does, why := api.TaskNone, api.ErrNone
		if k := g.o.find(id); k >= 0 {
			does, why = g.o.tasks[k].does, api.OK
			if g.o.tasks[k].byTime {
				why = api.ErrTime
			}
		}
		if x, e := g.s.State(id), g.s.Why(id); x != does || e != why {
			g.t.Fatalf("the task %d: %d %v, want %d %v", id, x, e, does, why)
		}
		if slices.Contains(row, id) != (does == api.TaskReady) {
			g.t.Fatalf("the task %d is ready, and is not", id)
		}
	}
	x, is := g.s.Next()
	if want, wantIs := g.o.next(); x != want || is != wantIs || g.s.Now() != g.o.time {
		g.t.Fatalf("Next: %d %v, want %d %v; Now: %d, want %d", x, is, want, wantIs, g.s.Now(), g.o.time)
	}
}

// P5.1 to P5.6: whatever is done, all is as the model has it.
func TestAsTheModel(t *testing.T) {
	d := rand.New(rand.NewSource(5))
	count := &tally{}
	for range 300 {
		g := newGame(t, d, count)
		for range 400 {
			g.step()
		}
	}
	if count.late < 1000 || count.woken < 3000 || count.ticked < 3000 || count.full < 10 || count.args < 500 {
		t.Errorf("the games say too little: %+v", *count)
	}
	if count.forgotten > 0 {
		t.Errorf("somebody was passed over too often, %d times", count.forgotten)
	}
}

// R6: what is done again has the same answers.
func TestAgain(t *testing.T) {
	told := func() []uint32 {
		var l []uint32
		g := newGame(t, rand.New(rand.NewSource(11)), &tally{})
		for range 500 {
			g.step()
			l = append(append(l, g.s.Ready()...), uint32(g.s.Now()))
		}
		return l
	}
	if !slices.Equal(told(), told()) {
		t.Error("another time, other answers")
	}
}
