package flow_test

import (
	"testing"

	"pharos/flow"
)

// P20.2: the chapter's examples.
func TestPutAsInTheDocument(t *testing.T) {
	q := made(t, 1<<32-2, 8)
	q.stays(0, "cd")
	q.puts(1<<32-2, "ab", true, true)
	q.reads(9, "abcd")
	q.is(2, 8, 0, 0)

	q = made(t, 5, 4)
	q.goes(5, "abcdef")
	q.is(9, 0, 4, 0)
	q.reads(9, "abcd")
	q.is(9, 4, 0, 0)
	q.puts(9, "ef", true, true)
	q.over(12, 2)
}

// P20.2: bytes that come in order are ready at once.
func TestPutInOrder(t *testing.T) {
	for _, first := range bases {
		q := made(t, first, 100)
		q.goes(first, "a")
		q.goes(first+1, "bcd")
		q.goes(first+4, "ef")
		q.is(first+6, 94, 6, 0)
		q.reads(100, "abcdef")
	}
}

// P20.2: bytes some ahead of which are wanting are held, till those come.
func TestPutOutOfOrder(t *testing.T) {
	for _, first := range bases {
		q := made(t, first, 100)
		q.stays(first+5, "f")
		q.stays(first+2, "cd")
		q.is(first, 100, 0, 3)
		q.goes(first, "a")
		q.is(first+1, 99, 1, 3)
		q.goes(first+1, "b")
		q.is(first+4, 96, 4, 1)
		q.goes(first+4, "e")
		q.is(first+6, 94, 6, 0)
		q.reads(100, "abcdef")
	}
}

// P20.2: bytes ahead of the next one came already, read or not, and are not taken.
func TestPutAheadOfNext(t *testing.T) {
	for _, first := range bases {
		q := made(t, first, 9)
		q.stays(first-1, "x")
		q.stays(first-3, "xyz")
		q.stays(first-1<<31, "x")
		q.is(first, 9, 0, 0)
		q.goes(first-2, "xyab")
		q.is(first+2, 7, 2, 0)
		q.stays(first, "XY")
		q.goes(first, "XYc")
		q.reads(2, "ab")
		q.stays(first, "XYZ")
		q.goes(first, "XYZd")
		q.reads(9, "cd")
		q.is(first+4, 9, 0, 0)
	}
}

// P20.2: bytes behind the window are not taken, those in it are.
func TestPutBehindTheWindow(t *testing.T) {
	for _, first := range bases {
		q := made(t, first, 4)
		q.stays(first+4, "e")
		q.stays(first+5, "fgh")
		q.stays(first+1<<31, "x")
		q.is(first, 4, 0, 0)
		q.stays(first+2, "cdef")
		q.is(first, 4, 0, 2)
		q.goes(first, "abXYZ")
		q.is(first+4, 0, 4, 0)
		q.stays(first+4, "e")
		q.is(first+4, 0, 4, 0)
		q.reads(9, "abcd")
		q.is(first+4, 4, 0, 0)
	}
}

// P20.2: the window is of the bytes from the next one on, less those that are ready; what is held takes nothing off it.
func TestPutBesideWhatIsReady(t *testing.T) {
	q := made(t, 10, 6)
	q.goes(10, "ab")
	q.is(12, 4, 2, 0)
	q.stays(15, "fg")
	q.is(12, 4, 2, 1)
	q.stays(16, "g")
	q.is(12, 4, 2, 1)
	q.reads(1, "a")
	q.stays(16, "gh")
	q.is(12, 5, 1, 2)
	q.goes(12, "cde")
	q.is(17, 0, 6, 0)
	q.reads(9, "bcdefg")
	q.is(17, 6, 0, 0)
}

// P20.2: of each number the first byte that came stays, held or ready, and those beside it are taken.
func TestTheFirstOneStays(t *testing.T) {
	q := made(t, 0, 20)
	q.stays(4, "ef")
	q.stays(3, "DEFG")
	q.is(0, 20, 0, 4)
	q.stays(4, "xyz")
	q.is(0, 20, 0, 4)
	q.goes(0, "abc123456h")
	q.is(10, 10, 10, 0)
	q.reads(20, "abcDefG56h")
	for _, whole := range []string{"....", "abcd"} {
		q := made(t, 7, 4)
		q.stays(8, "b")
		q.stays(10, "d")
		q.goes(7, whole)
		q.reads(9, string([]byte{whole[0], 'b', whole[2], 'd'}))
	}
}

// P20.2: no bytes at all are none, wherever they stand.
func TestPutNothing(t *testing.T) {
	for _, seq := range []uint32{0, 6, 7, 8, 10, 11, 12, 1 << 31, 1<<32 - 1} {
		q := made(t, 7, 4)
		q.stays(seq, "")
		q.is(7, 4, 0, 0)
	}
}

// P20.2: at most 65,536 bytes at one time; of more none is taken, nor the end.
func TestPutHowMuch(t *testing.T) {
	s := places(0, widest+1)
	q := made(t, 1<<32-9, widest)
	q.puts(1<<32-9, s, true, false)
	q.stays(1<<32-10, s)
	q.stays(1<<32-9, s+s)
	q.is(1<<32-9, widest, 0, 0)
	q.stays(1<<32-8, s[1:])
	q.is(1<<32-9, widest, 0, widest-1)
	q.goes(1<<32-9, s[:widest])
	q.is(widest-9, 0, widest, 0)
	q.puts(widest-9, "", true, true)
	q.over(widest-8, widest)
	q.reads(widest+1, s[:widest])

	q = made(t, 3, widest)
	q.puts(3, s[:widest], true, true)
	q.over(widest+4, widest)
}

// P20.2: of 65,536 bytes only the last ones, or the first one, may be in the window, or just none.
func TestPutALittleOfMuch(t *testing.T) {
	first := uint32(5)
	s := places(0, widest)
	q := made(t, first, 9)
	q.stays(first-widest, s)
	q.is(first, 9, 0, 0)
	q.goes(first-widest+3, s)
	q.is(first+3, 6, 3, 0)
	q.stays(first+9, s)
	q.is(first+3, 6, 3, 0)
	q.stays(first+8, s)
	q.is(first+3, 6, 3, 1)
	q.goes(first+3, s[:5])
	q.reads(9, s[widest-3:]+s[:5]+s[:1])
}

// P20.2: the end comes with the bytes ahead of it, or alone, or ahead of them; it has a number of its own.
func TestTheEnd(t *testing.T) {
	for _, first := range bases {
		q := made(t, first, 4)
		q.puts(first, "ab", true, true)
		q.over(first+3, 2)

		q = made(t, first, 4)
		q.goes(first, "ab")
		q.puts(first+2, "", true, true)
		q.over(first+3, 2)

		q = made(t, first, 4)
		q.puts(first, "", true, true)
		q.over(first+1, 0)

		q = made(t, first, 4)
		q.puts(first+2, "c", true, false)
		q.is(first, 4, 0, 1)
		q.goes(first, "a")
		q.is(first+1, 3, 1, 1)
		q.goes(first+1, "b")
		q.over(first+4, 3)

		q = made(t, first, 4)
		q.puts(first+2, "", true, false)
		q.is(first, 4, 0, 0)
		q.goes(first, "ab")
		q.over(first+3, 2)

		q = made(t, first, 4)
		q.goes(first, "a")
		q.puts(first-1, "xyb", true, true) // what is put began ahead of the next one
		q.over(first+3, 2)
		q.reads(4, "ab")
	}
}

// P20.2: the end may stand where the next byte does, and up to right behind the window, not ahead of that, nor farther.
func TestWhereTheEndMayBe(t *testing.T) {
	for _, first := range bases {
		for _, at := range []uint32{0, 1, 3, 4} {
			q := made(t, first, 6)
			q.goes(first-2, "xyab")
			q.puts(first+2+at, "", true, at == 0)
			if q.Ended() != (at == 0) {
				t.Fatalf("an end %d behind the next one: %v", at, q.Ended())
			}
			q.puts(first+2, "cdefgh"[:at], false, at > 0)
			q.over(first+3+at, 2+int(at))
		}
		for _, at := range []uint32{5, 6, 100, 1<<31 - 1, 1 << 31, 1<<32 - 3, 1<<32 - 2, 1<<32 - 1} {
			q := made(t, first, 6)
			q.goes(first, "ab")
			q.puts(first+2+at, "", true, false)
			q.is(first+2, 4, 2, 0)
			q.goes(first+2, "cd")
			q.is(first+4, 2, 4, 0)
			q.puts(first+4, "ef", true, true)
			q.over(first+7, 6)
		}
	}
}

// P20.2: beside an end that may not be where it is told, the bytes are taken as they would be without it.
func TestBytesBesideNoEnd(t *testing.T) {
	q := made(t, 5, 4)
	q.puts(5, "abcde", true, true) // behind the window
	q.is(9, 0, 4, 0)
	q.reads(9, "abcd")
	q.puts(9, "ef", true, true)
	q.over(12, 2)

	q = made(t, 5, 4)
	q.goes(5, "ab")
	q.puts(4, "xy", true, false) // ahead of the next one
	q.is(7, 2, 2, 0)
	q.puts(8, "dX", true, false) // right behind one more
	q.is(7, 2, 2, 1)
	q.goes(7, "c")
	q.is(9, 0, 4, 0)
}

// P20.2: with no room at all the end may still stand at the next number.
func TestTheEndOfAFullWindow(t *testing.T) {
	q := made(t, 5, 2)
	q.goes(5, "abc")
	q.is(7, 0, 2, 0)
	q.puts(7, "c", true, false)
	q.is(7, 0, 2, 0)
	q.puts(6, "b", true, true)
	q.over(8, 2)

	q = made(t, 5, 2)
	q.puts(5, "ab", true, true)
	q.over(8, 2)
}

// P20.2: no byte may be held where the end is told, nor behind it.
func TestTheEndCutsNothingOff(t *testing.T) {
	for _, first := range bases {
		for at := range uint32(6) {
			q := made(t, first, 10)
			q.stays(first+5, "f")
			q.puts(first+at, "", true, false)
			q.is(first, 10, 0, 1)
			q.goes(first, "abcde")
			q.is(first+6, 4, 6, 0)
			q.goes(first+6, "g")
			q.puts(first+7, "", true, true)
			q.over(first+8, 7)
		}
	}
}

// P20.2: ahead of the end bytes may be held.
func TestTheEndBehindWhatIsHeld(t *testing.T) {
	for _, first := range bases {
		for at := uint32(6); at < 10; at++ {
			q := made(t, first, 10)
			q.stays(first+5, "f")
			q.puts(first+at, "", true, false)
			q.is(first, 10, 0, 1)
			q.goes(first, "abcde")
			if at > 6 {
				q.is(first+6, 4, 6, 0)
				q.goes(first+6, "ghijkl")
			}
			q.over(first+at+1, int(at))
		}
	}
}

// P20.2: of several bytes that are held each one is looked at.
func TestTheEndAmongMany(t *testing.T) {
	for last := range uint32(40) {
		q := made(t, 1<<32-20, 60)
		for k := range last + 1 {
			q.stays(1<<32-19+k, "x")
		}
		q.puts(1<<32-19+last, "", true, false)
		q.puts(1<<32-19, "", true, false)
		q.goes(1<<32-20, "a")
		q.is(1<<32-18+last, 60-2-int(last), 2+int(last), 0)
		q.puts(1<<32-18+last, "", true, true)
		q.over(1<<32-17+last, 2+int(last))
	}
}

// P20.2: once the end was told only bytes ahead of it are taken, however far the window goes.
func TestBytesBehindTheEnd(t *testing.T) {
	q := made(t, 1<<32-3, 20)
	q.puts(0, "de", true, false)
	q.stays(2, "x")
	q.stays(3, "xyz")
	q.stays(1, "EXYZ")
	q.is(1<<32-3, 20, 0, 2)
	q.goes(1<<32-3, "abcDEXYZ")
	q.over(3, 5)
	q.reads(9, "abcde")
}

// P20.2: the first end that was told stays.
func TestTheFirstEndStays(t *testing.T) {
	for _, other := range []uint32{5, 6, 7, 9, 10, 13, 14, 15} {
		q := made(t, 5, 9)
		q.puts(8, "", true, false)
		q.puts(other, "", true, false)
		q.is(5, 9, 0, 0)
		q.puts(8, "", true, false)
		q.goes(5, "ab")
		q.is(7, 7, 2, 0)
		q.puts(7, "", true, false)
		q.puts(7, "cd", true, true)
		q.over(9, 3)
		q.reads(9, "abc")
	}
}

// P20.2: an end that may not be there is as none: another one may be told.
func TestAnEndAfterNone(t *testing.T) {
	q := made(t, 5, 4)
	q.puts(10, "", true, false)
	q.puts(4, "", true, false)
	q.stays(7, "c")
	q.puts(6, "", true, false)
	q.puts(8, "", true, false)
	q.goes(5, "ab")
	q.over(9, 3)
}

// P20.2: an end that was told in the window is reached, whatever is read meanwhile.
func TestTheEndWhileBytesAreRead(t *testing.T) {
	q := made(t, 5, 4)
	q.puts(9, "", true, false)
	q.goes(5, "abc")
	q.reads(2, "ab")
	q.stays(9, "xyz")
	q.is(8, 3, 1, 0)
	q.goes(7, "cdef")
	q.over(10, 2)
	q.reads(9, "cd")
}

// P20.2: whether the next number is another one now.
func TestWhatPutAnswers(t *testing.T) {
	q := made(t, 5, 9)
	q.puts(5, "", false, false)
	q.puts(7, "c", false, false)
	q.puts(7, "c", false, false)
	q.puts(5, "a", false, true)
	q.puts(5, "a", false, false)
	q.puts(10, "", true, false)
	q.puts(5, "xb", false, true)
	q.puts(5, "abc", true, false)
	q.puts(8, "de", false, true)
	q.over(11, 5)
}

// P20.2: once it has ended nothing is taken.
func TestPutBehindTheEnd(t *testing.T) {
	for _, fin := range []bool{false, true} {
		q := made(t, 5, 9)
		q.puts(5, "ab", true, true)
		for _, seq := range []uint32{4, 5, 6, 7, 8, 9, 16, 17} {
			q.puts(seq, "", fin, false)
			q.puts(seq, "xyzxyz", fin, false)
		}
		q.over(8, 2)
		q.reads(1, "a")
		q.puts(8, "x", fin, false)
		q.over(8, 1)
		q.reads(9, "b")
		q.puts(8, "x", fin, false)
		q.puts(9, "x", fin, false)
		q.over(8, 0)
	}
}

// R5: what is put is not kept: when it changes, what is held and ready stays.
func TestPutKeepsNoText(t *testing.T) {
	q := made(t, 5, 9)
	s, b := lent("cd")
	q.stays(7, s)
	copy(b, "..")
	s, b = lent("ab")
	q.goes(5, s)
	copy(b, "..")
	q.reads(9, "abcd")
	s, b = lent("e")
	q.puts(9, s, true, true)
	copy(b, ".")
	q.reads(9, "e")
}

// R6: the same calls answer the same.
func TestAgain(t *testing.T) {
	play := func() string {
		q, _ := flow.New(1<<32-40, 100)
		s := ""
		for k := range uint32(300) {
			at := 1<<32 - 40 + k*37%101
			if q.Put(at, places(int(k), int(k%5+k)), k > 200 && k%7 == 0) {
				s += "next "
			}
			if k%11 == 0 {
				s += q.Read(int(k % 13))
			}
			if q.Ended() {
				s += "ended"
			}
		}
		return s + q.Read(1000)
	}
	first := play()
	for range 3 {
		if s := play(); s != first {
			t.Fatalf("%q, then %q", first, s)
		}
	}
}
