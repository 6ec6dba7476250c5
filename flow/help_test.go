package flow_test

import (
	"math/rand"
	"strings"
	"testing"
	"unsafe"

	"pharos/api"
	"pharos/flow"
)

// widest is the widest window that may be.
const widest = 65536

func full(b byte, n int) string { return strings.Repeat(string([]byte{b}), n) }

func drawn(d *rand.Rand, n int) string {
	b := make([]byte, n)
	d.Read(b)
	return string(b)
}

// places is bytes that tell where each stands.
func places(from, to int) string {
	b := make([]byte, 0, to-from)
	for k := from; k < to; k++ {
		b = append(b, byte(k^k>>7))
	}
	return string(b)
}

// queue is one, and what must be of it.
type queue struct {
	*flow.Queue
	t *testing.T
}

func made(t *testing.T, next uint32, window int) queue {
	t.Helper()
	q, e := flow.New(next, window)
	if q == nil || e != api.OK {
		t.Fatalf("New(%d, %d): %v %v", next, window, q, e)
	}
	return queue{q, t}
}

func (q queue) puts(seq uint32, data string, fin, want bool) {
	q.t.Helper()
	if is := q.Put(seq, data, fin); is != want {
		q.t.Fatalf("Put(%d, %.40q (%d bytes), %v): %v", seq, data, len(data), fin, is)
	}
}

// goes demands that bytes make the next number another one.
func (q queue) goes(seq uint32, data string) {
	q.t.Helper()
	q.puts(seq, data, false, true)
}

// stays demands that bytes do not.
func (q queue) stays(seq uint32, data string) {
	q.t.Helper()
	q.puts(seq, data, false, false)
}

// reads demands bytes that are ready.
func (q queue) reads(most int, want string) {
	q.t.Helper()
	if s := q.Read(most); s != want {
		q.t.Fatalf("Read(%d): %.60q (%d bytes), want %.60q (%d)", most, s, len(s), want, len(want))
	}
}

// is demands all that is told of a queue that has not ended.
func (q queue) is(next uint32, window, ready, held int) {
	q.t.Helper()
	q.tells(next, window, ready, held, false)
}

// over demands all that is told of one that has.
func (q queue) over(next uint32, ready int) {
	q.t.Helper()
	q.tells(next, 0, ready, 0, true)
}

func (q queue) tells(next uint32, window, ready, held int, ended bool) {
	q.t.Helper()
	if q.Next() != next || q.Window() != window || q.Ready() != ready || q.Held() != held || q.Ended() != ended {
		q.t.Fatalf("next %d, window %d, ready %d, held %d, ended %v, want %d, %d, %d, %d, %v",
			q.Next(), q.Window(), q.Ready(), q.Held(), q.Ended(), next, window, ready, held, ended)
	}
}

// lent is a text on bytes of which the test has a hold: what is kept of it changes with them.
func lent(s string) (string, []byte) {
	b := []byte(s)
	return unsafe.String(unsafe.SliceData(b), len(b)), b
}
