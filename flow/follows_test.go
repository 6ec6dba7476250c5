package flow_test

import (
	"math/rand"
	"strings"
	"testing"
)

// cut is a part of a text: from a place on, up to another one, and whether the end is told with it.
type cut struct {
	from, to int
	fin      bool
}

// cuts are parts of a text, cut anywhere, some of them over one another, in a drawn order; some come twice.
func cuts(d *rand.Rand, size int) []cut {
	var l []cut
	for from := 0; from < size; {
		to := from + 1 + d.Intn(min(size-from, 9))
		l = append(l, cut{from, to, to == size})
		from = to - d.Intn(2)*d.Intn(to-from) // never back to where it was
	}
	for range d.Intn(6) {
		l = append(l, l[d.Intn(len(l))])
	}
	if d.Intn(3) == 0 {
		l = append(l, cut{size, size, true})
	}
	d.Shuffle(len(l), func(i, k int) { l[i], l[k] = l[k], l[i] })
	return l
}

// bounded demands that no more is ready and held than the window that was told.
func (q queue) bounded(window int) {
	q.t.Helper()
	if n := q.Ready() + q.Held(); n > window {
		q.t.Fatalf("%d bytes are kept, of at most %d", n, window)
	}
}

// P20.4: bytes that stand in the window when they come, cut anywhere, in any order, doubled and over one another, are read as they were, once, and so is the end.
func TestAnyOrder(t *testing.T) {
	d := rand.New(rand.NewSource(2004))
	for range 5000 {
		text := drawn(d, 1+d.Intn(60))
		first := -uint32(d.Intn(90))
		q := made(t, first, len(text))
		l := cuts(d, len(text))
		for _, c := range l {
			q.Put(first+uint32(c.from), text[c.from:c.to], c.fin)
			q.bounded(len(text))
		}
		q.over(first+uint32(len(text))+1, len(text))
		if s := q.Read(len(text)); s != text {
			t.Fatalf("%v: %q, want %q", l, s, text)
		}
	}
}

// P20.4: so it is, if bytes are read meanwhile, and those that stood out of the window come again.
func TestAnyOrderAndWindow(t *testing.T) {
	d := rand.New(rand.NewSource(2005))
	for range 2000 {
		text, window := drawn(d, 1+d.Intn(200)), 1+d.Intn(30)
		first := -uint32(d.Intn(250))
		q := made(t, first, window)
		var b strings.Builder
		for rounds := 0; !q.Ended(); rounds++ {
			if rounds == len(text)+2 { // each round brings the next byte at least
				t.Fatalf("after %d rounds the end is not there: %d of %d bytes", rounds, b.Len(), len(text))
			}
			for _, c := range cuts(d, len(text)) {
				q.Put(first+uint32(c.from), text[c.from:c.to], c.fin)
				q.bounded(window)
				if d.Intn(9) == 0 {
					b.WriteString(q.Read(d.Intn(window + 2)))
				}
			}
			b.WriteString(q.Read(window))
		}
		b.WriteString(q.Read(window))
		if b.String() != text || q.Next() != first+uint32(len(text))+1 {
			t.Fatalf("%q, want %q, next %d", b.String(), text, q.Next())
		}
	}
}

// P20.4: three parts of a text, the last one with the end, in each order.
func TestEachOrder(t *testing.T) {
	const text = "abcdefghi"
	for a := range len(text) + 1 {
		for b := a; b <= len(text); b++ {
			for _, o := range [][]int{{0, 1, 2}, {0, 2, 1}, {1, 0, 2}, {1, 2, 0}, {2, 0, 1}, {2, 1, 0}} {
				parts := []cut{{0, a, false}, {a, b, false}, {b, 9, true}}
				q := made(t, 1<<32-4, 9)
				for _, k := range o {
					c := parts[k]
					q.Put(1<<32-4+uint32(c.from), text[c.from:c.to], c.fin)
				}
				q.over(6, 9)
				q.reads(9, text)
			}
		}
	}
}

// P20.4: bytes of any other place, with or without an end, never make a queue keep more than its window.
func TestNeverMore(t *testing.T) {
	d := rand.New(rand.NewSource(2006))
	for range 300 {
		window := 1 + d.Intn(100)
		first := d.Uint32()
		q := made(t, first, window)
		far := first + uint32(window)
		for range 60 {
			seq := q.Next() + uint32(d.Intn(2*window)-window/2)
			s := drawn(d, d.Intn(3*window))
			q.Put(seq, s, d.Intn(50) == 0)
			q.bounded(window)
			far += uint32(len(q.Read(d.Intn(window))))
			if !q.Ended() && q.Next()+uint32(q.Window()) != far {
				t.Fatalf("next %d, window %d, want it to reach up to %d", q.Next(), q.Window(), far)
			}
		}
	}
}

// P20.4: a long text, round the numbers' end, by several windows: of each one the second half comes first.
func TestALongText(t *testing.T) {
	d := rand.New(rand.NewSource(2007))
	text := drawn(d, 300000)
	for _, window := range []int{1000, 1460, 65535, widest} {
		const first = uint32(1<<32 - 150000)
		q := made(t, first, window)
		var b strings.Builder
		for rounds := 0; !q.Ended(); rounds++ {
			at := int(q.Next() - first)
			if at > len(text) || rounds > len(text) { // each round brings a byte at least
				t.Fatalf("window %d: after %d rounds it is at %d", window, rounds, at)
			}
			room := min(q.Window(), len(text)-at)
			middle := at + room/2
			far := at + room
			q.Put(first+uint32(middle), text[middle:far], far == len(text))
			if q.Held() != far-middle && room > 1 {
				t.Fatalf("window %d: %d bytes held, want %d", window, q.Held(), far-middle)
			}
			q.puts(first+uint32(at), text[at:min(at+room/2+7, far)], false, true)
			b.WriteString(q.Read(q.Ready() - d.Intn(2)*d.Intn(q.Ready())))
		}
		b.WriteString(q.Read(window))
		if b.String() != text {
			t.Fatalf("window %d: it is another one", window)
		}
		q.over(150001, 0)
	}
}
