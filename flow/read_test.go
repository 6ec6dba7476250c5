package flow_test

import (
	"strings"
	"testing"
)

// P20.3: at most so many bytes are read, the first ones that are ready, which are gone then.
func TestRead(t *testing.T) {
	q := made(t, 1<<32-3, 9)
	q.goes(1<<32-3, "abcdef")
	q.reads(1, "a")
	q.is(3, 4, 5, 0)
	q.reads(2, "bc")
	q.is(3, 6, 3, 0)
	q.reads(3, "def")
	q.is(3, 9, 0, 0)
	q.reads(3, "")
	q.is(3, 9, 0, 0)
}

// P20.3: fewer, if fewer are ready.
func TestReadMore(t *testing.T) {
	for _, most := range []int{4, 5, 65536, 1 << 32, 1<<63 - 1} {
		q := made(t, 3, 9)
		q.reads(most, "")
		q.goes(3, "abcd")
		q.reads(most, "abcd")
		q.reads(most, "")
		q.is(7, 9, 0, 0)
	}
}

// P20.3: none, if it is below 1.
func TestReadNone(t *testing.T) {
	q := made(t, 3, 9)
	q.goes(3, "abcd")
	for _, most := range []int{0, -1, -2, -65536, -1 << 32, -1 << 63} {
		q.reads(most, "")
		q.is(7, 5, 4, 0)
	}
	q.reads(1, "a")
}

// P20.3: what is held is not read, and stays held.
func TestReadNothingHeld(t *testing.T) {
	q := made(t, 3, 9)
	q.stays(4, "bcd")
	q.reads(9, "")
	q.is(3, 9, 0, 3)
	q.goes(3, "a")
	q.stays(8, "fg")
	q.reads(9, "abcd")
	q.is(7, 9, 0, 2)
	q.goes(7, "e")
	q.reads(9, "efg")
	q.is(10, 9, 0, 0)
}

// P20.3: what was read makes room, at the far end of the window.
func TestReadMakesRoom(t *testing.T) {
	q := made(t, 3, 4)
	q.goes(3, "abcd")
	for k := range uint32(50) {
		q.stays(7+k, "x")
		q.is(7+k, 0, 4, 0)
		q.Read(1)
		q.stays(8+k, "y")
		q.is(7+k, 1, 3, 0)
		q.goes(7+k, places(int(k), int(k+2)))
	}
	q.reads(9, places(46, 50))
}

// P20.3: bytes that are read in other portions than they came in are the same.
func TestReadInPortions(t *testing.T) {
	s := places(0, 9000)
	for portion := 1; portion < 40; portion += 3 {
		q := made(t, 1<<32-4500, 50)
		var all strings.Builder
		for all.Len() < len(s) {
			at := min(q.Next()-(1<<32-4500), 9000)
			q.Put(q.Next(), s[at:min(len(s), int(at)+17)], false)
			some := q.Read(portion)
			if some == "" {
				t.Fatalf("in portions of %d: nothing is ready, after %d bytes", portion, all.Len())
			}
			all.WriteString(some)
		}
		if all.String() != s {
			t.Fatalf("in portions of %d they are others", portion)
		}
		q.is(4500, 50, 0, 0)
	}
}

// P20.3: an ended queue has no window, whatever is ready, and its bytes may be read.
func TestReadAnEndedQueue(t *testing.T) {
	q := made(t, 3, 9)
	q.puts(3, "abcd", true, true)
	q.over(8, 4)
	q.reads(0, "")
	q.reads(3, "abc")
	q.over(8, 1)
	q.reads(3, "d")
	q.over(8, 0)
	q.reads(3, "")
	q.over(8, 0)
}

// P20.3: it has ended only once all bytes ahead of the end came.
func TestEnded(t *testing.T) {
	q := made(t, 3, 9)
	q.puts(6, "", true, false)
	q.is(3, 9, 0, 0)
	q.goes(3, "ab")
	q.is(5, 7, 2, 0)
	q.reads(9, "ab")
	q.is(5, 9, 0, 0)
	q.goes(5, "c")
	q.over(7, 1)
}

// P20.3: to be told of a queue changes nothing of it.
func TestTelling(t *testing.T) {
	q := made(t, 3, 9)
	q.goes(3, "ab")
	q.stays(7, "e")
	for range 3 {
		q.is(5, 7, 2, 1)
	}
	q.goes(5, "cd")
	q.reads(9, "abcde")
}

// R5: what was read stays as it was, whatever comes behind it.
func TestReadIsNew(t *testing.T) {
	q := made(t, 3, 9)
	q.goes(3, "abcdef")
	first := q.Read(2)
	q.goes(9, "ghi")
	second := q.Read(3)
	q.goes(12, "jkl")
	third := q.Read(9)
	q.goes(15, "mnopqrstu")
	if first != "ab" || second != "cde" || third != "fghijkl" {
		t.Fatalf("%q %q %q", first, second, third)
	}
	q.reads(9, "mnopqrstu")
}
