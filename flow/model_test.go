package flow_test

import (
	"fmt"
	"math/rand"
	"testing"

	"pharos/flow"
)

// model is a queue told by places that do not go round, from the first byte's, 0, on: all that ever came stands in one list.
type model struct {
	first uint32 // the number of place 0
	most  int
	came  map[int]byte
	next  int // the first place without a byte
	read  int // how many bytes were read
	end   int // a place, or -1
	ended bool
}

// place is the one nearest to the next one that has that number.
func (o *model) place(seq uint32) int {
	return o.next + int(int32(seq-o.first-uint32(o.next)))
}

// open tells whether a byte may stand at a place now.
func (o *model) open(at int) bool {
	return at >= o.next && at < o.read+o.most && (o.end < 0 || at < o.end)
}

// last is the last place that has a byte, or -1.
func (o *model) last() int {
	last := -1
	for at := range o.came {
		last = max(last, at)
	}
	return last
}

// put is Put, and how many bytes were taken.
func (o *model) put(seq uint32, data string, fin bool) (bool, int) {
	if o.ended || len(data) > 65536 {
		return false, 0
	}
	taken, at, before := 0, o.place(seq), o.next
	for k := range len(data) {
		if _, is := o.came[at+k]; !is && o.open(at+k) {
			o.came[at+k] = data[k]
			taken++
		}
	}
	if end := at + len(data); fin && o.end < 0 && end >= o.next && end <= o.read+o.most && end > o.last() {
		o.end = end
	}
	for _, is := o.came[o.next]; is; _, is = o.came[o.next] {
		o.next++
	}
	o.ended = o.end == o.next
	return o.next != before || o.ended, taken
}

func (o *model) take(most int) string {
	var b []byte
	for ; most > 0 && o.read < o.next; most-- {
		b = append(b, o.came[o.read])
		o.read++
	}
	return string(b)
}

// told is all that is told of it.
func (o *model) told() string {
	next, window := o.first+uint32(o.next), o.read+o.most-o.next
	if o.ended {
		next, window = next+1, 0
	}
	return fmt.Sprint(next, window, o.next-o.read, len(o.came)-o.next, o.ended)
}

// tally is how often something was seen, in all games.
type tally struct{ whole, part, none, ends, noEnds, ended, behind, full, reads, long int }

// game is a queue and its model, to which the same is done.
type game struct {
	t     *testing.T
	d     *rand.Rand
	q     *flow.Queue
	o     *model
	count *tally
	told  []string
}

func newGame(t *testing.T, d *rand.Rand, count *tally) *game {
	first, window := d.Uint32(), 1+d.Intn(40)
	if d.Intn(2) == 0 {
		first = -uint32(d.Intn(60))
	}
	if d.Intn(8) == 0 {
		window = 65536 - d.Intn(3)
	}
	q, e := flow.New(first, window)
	if e != 0 {
		t.Fatal(e)
	}
	return &game{t: t, d: d, q: q, o: &model{first: first, most: window, came: map[int]byte{}, end: -1}, count: count}
}

// seq is a number: mostly near the next one, or near the window's end, or the end's; now and then far away.
func (g *game) seq() uint32 {
	at := g.o.next
	switch g.d.Intn(12) {
	case 0:
		at = g.o.read + g.o.most + g.d.Intn(5) - 3
	case 1:
		at = max(g.o.end, 0) + g.d.Intn(5) - 3
	case 2, 3, 4, 5:
		at += g.d.Intn(min(g.o.most, 60)+1) - 3
	case 6:
		return g.d.Uint32()
	}
	return g.o.first + uint32(at)
}

func (g *game) data() string {
	switch g.d.Intn(12) {
	case 0:
		return ""
	case 1:
		if g.d.Intn(10) == 0 {
			return drawn(g.d, 65536-2+g.d.Intn(4))
		}
	case 2:
		return drawn(g.d, g.d.Intn(100))
	}
	return drawn(g.d, 1+g.d.Intn(6))
}

func (g *game) put() {
	seq, data, fin := g.seq(), g.data(), g.d.Intn(9) == 0
	had := g.o.end
	want, taken := g.o.put(seq, data, fin)
	g.told = append(g.told, fmt.Sprintf("Put(%d, %.40q (%d bytes), %v)", seq, data, len(data), fin))
	if is := g.q.Put(seq, data, fin); is != want {
		g.fails("%v", is)
	}
	g.counts(data, taken, fin, had)
}

func (g *game) counts(data string, taken int, fin bool, had int) {
	add := func(n *int, is bool) {
		if is {
			*n++
		}
	}
	c, n := g.count, len(data)
	add(&c.whole, n > 0 && taken == n)
	add(&c.part, taken > 0 && taken < n)
	add(&c.none, n > 0 && taken == 0)
	add(&c.ends, g.o.end != had)
	add(&c.noEnds, fin && g.o.end == had)
	add(&c.behind, had >= 0 && !g.o.ended && taken < n)
	add(&c.full, g.o.next == g.o.read+g.o.most)
	add(&c.long, n > 65536)
}

func (g *game) read() {
	most := g.d.Intn(12) - 1
	if g.d.Intn(4) == 0 {
		most = 65536
	}
	want := g.o.take(most)
	g.told = append(g.told, fmt.Sprintf("Read(%d)", most))
	if s := g.q.Read(most); s != want {
		g.fails("%.60q, want %.60q", s, want)
	}
	if want != "" {
		g.count.reads++
	}
}

// same demands that all that is told is what the model tells.
func (g *game) same() {
	s := fmt.Sprint(g.q.Next(), g.q.Window(), g.q.Ready(), g.q.Held(), g.q.Ended())
	if want := g.o.told(); s != want {
		g.fails("next, window, ready, held, ended: %s, want %s", s, want)
	}
	if g.q.Ready()+g.q.Held() > g.o.most { // P20.4
		g.fails("%d bytes ready, %d held, of at most %d", g.q.Ready(), g.q.Held(), g.o.most)
	}
}

func (g *game) fails(form string, args ...any) {
	g.t.Helper()
	for _, s := range g.told[max(0, len(g.told)-20):] {
		g.t.Log(s)
	}
	g.t.Fatalf("first %d, window %d: "+form, append([]any{g.o.first, g.o.most}, args...)...)
}

// P20.2, P20.3, P20.4: drawn games: what is put and read is what the chapter's words make of it.
func TestModel(t *testing.T) {
	d := rand.New(rand.NewSource(2002))
	var count tally
	for range 3000 {
		g := newGame(t, d, &count)
		for range 10 + d.Intn(60) {
			if d.Intn(4) == 0 {
				g.read()
			} else {
				g.put()
			}
			g.same()
		}
		if g.o.ended {
			count.ended++
		}
	}
	t.Logf("%+v", count)
	c := count
	for _, n := range []int{c.whole, c.part, c.none, c.ends, c.noEnds, c.ended, c.behind, c.full, c.reads, c.long} {
		if n < 100 {
			t.Fatalf("the games say too little: %+v", count)
		}
	}
}
