package mem_test

import (
	"math"
	"slices"
	"strings"
	"testing"

	"pharos/api"
	"pharos/mem"
)

// fresh is a new memory of so many bytes.
func fresh(t *testing.T, size int) *mem.Mem {
	t.Helper()
	m, e := mem.New(size)
	if e != api.OK || m == nil {
		t.Fatalf("New(%d): %v", size, e)
	}
	return m
}

// want fails unless the error is that one.
func want(t *testing.T, what string, got, e api.Errno) {
	t.Helper()
	if got != e {
		t.Errorf("%s: %v, want %v", what, got, e)
	}
}

// stands fails unless the memory's bytes are these, and lent is just that.
func stands(t *testing.T, m *mem.Mem, bytes string, lent ...api.Span) {
	t.Helper()
	if s, e := m.Read(0, m.Size()); e != api.OK || s != bytes {
		t.Errorf("bytes are %q, %v, want %q", s, e, bytes)
	}
	if l := m.Lent(); !slices.Equal(l, lent) {
		t.Errorf("lent is %v, want %v", l, lent)
	}
}

func at(place, n uint32) api.Span { return api.Span{At: place, Len: n} }

// nones are the memories of which there is none: nil, and such as New did not make.
func nones() map[string]*mem.Mem {
	return map[string]*mem.Mem{"nil": nil, "zero": {}, "new": new(mem.Mem)}
}

func TestNewSizes(t *testing.T) { // P1.1
	for _, size := range []int{1, 2, 16, api.MaxMem - 1, api.MaxMem} {
		m := fresh(t, size)
		if m.Size() != size {
			t.Errorf("Size is %d, want %d", m.Size(), size)
		}
		stands(t, m, strings.Repeat("\x00", size))
	}
	for _, size := range []int{0, -1, api.MaxMem + 1, math.MinInt, math.MaxInt} {
		if m, e := mem.New(size); m != nil || e != api.ErrArg {
			t.Errorf("New(%d): %v %v", size, m, e)
		}
	}
}

func TestMemoriesAreApart(t *testing.T) { // P1.1, R6
	a, b := fresh(t, 4), fresh(t, 4)
	want(t, "Write", a.Write(0, "abcd"), api.OK)
	want(t, "Lend", a.Lend(at(1, 2)), api.OK)
	stands(t, b, "\x00\x00\x00\x00")
}

func TestRead(t *testing.T) { // P1.2
	m := fresh(t, 8)
	want(t, "Write", m.Write(0, "abcdefgh"), api.OK)
	want(t, "Lend", m.Lend(at(2, 3)), api.OK)
	for _, c := range []struct {
		at uint32
		n  int
		s  string
		e  api.Errno
	}{
		{0, 8, "abcdefgh", api.OK},
		{1, 3, "bcd", api.OK}, // of both
		{2, 3, "cde", api.OK}, // lent
		{7, 1, "h", api.OK},
		{0, 0, "", api.OK},
		{3, 0, "", api.OK},
		{8, 0, "", api.OK},
		{9, 0, "", api.ErrOut},
		{8, 1, "", api.ErrOut},
		{7, 2, "", api.ErrOut},
		{0, 9, "", api.ErrOut},
		{math.MaxUint32, 0, "", api.ErrOut},
		{math.MaxUint32, 1, "", api.ErrOut},
		{math.MaxUint32, 9, "", api.ErrOut},
		{1, math.MaxInt, "", api.ErrOut},
		{math.MaxUint32, math.MaxInt, "", api.ErrOut},
		{0, 1 << 32, "", api.ErrOut},
		{1, 1<<32 - 1, "", api.ErrOut},
		{0, -1, "", api.ErrArg},
		{9, -1, "", api.ErrArg}, // ahead of ErrOut
		{8, math.MinInt, "", api.ErrArg},
	} {
		if s, e := m.Read(c.at, c.n); s != c.s || e != c.e {
			t.Errorf("Read(%d, %d): %q %v, want %q %v", c.at, c.n, s, e, c.s, c.e)
		}
	}
	stands(t, m, "abcdefgh", at(2, 3))
}

func TestReadIsKept(t *testing.T) { // P1.2, R5
	m := fresh(t, 2)
	s, _ := m.Read(0, 2)
	want(t, "Write", m.Write(0, "xy"), api.OK)
	if s != "\x00\x00" {
		t.Errorf("what was read is %q now", s)
	}
}

func TestNumbersAreRead(t *testing.T) { // P1.2
	m := fresh(t, 9)
	want(t, "Write", m.Write(0, "\x01\x82\x03\x84\x05\x86\x07\x88\x99"), api.OK)
	want(t, "Lend", m.Lend(at(3, 2)), api.OK)
	if x, e := m.U16(0); x != 0x8201 || e != api.OK {
		t.Errorf("U16(0): %x %v", x, e)
	}
	if x, e := m.U16(7); x != 0x9988 || e != api.OK {
		t.Errorf("U16(7): %x %v", x, e)
	}
	if x, e := m.U32(0); x != 0x84038201 || e != api.OK {
		t.Errorf("U32(0): %x %v", x, e)
	}
	if x, e := m.U32(5); x != 0x99880786 || e != api.OK {
		t.Errorf("U32(5): %x %v", x, e)
	}
	if x, e := m.U64(0); x != 0x8807860584038201 || e != api.OK {
		t.Errorf("U64(0): %x %v", x, e)
	}
	if x, e := m.U64(1); x != 0x9988078605840382 || e != api.OK {
		t.Errorf("U64(1): %x %v", x, e)
	}
	for _, place := range []uint32{2, 6, 8, 9, 10, math.MaxUint32} {
		if x, e := m.U64(place); x != 0 || e != api.ErrOut {
			t.Errorf("U64(%d): %x %v", place, x, e)
		}
	}
	for _, place := range []uint32{6, 8, 9, 10, math.MaxUint32 - 3, math.MaxUint32} {
		if x, e := m.U32(place); x != 0 || e != api.ErrOut {
			t.Errorf("U32(%d): %x %v", place, x, e)
		}
	}
	for _, place := range []uint32{8, 9, 10, math.MaxUint32 - 1, math.MaxUint32} {
		if x, e := m.U16(place); x != 0 || e != api.ErrOut {
			t.Errorf("U16(%d): %x %v", place, x, e)
		}
	}
}

func TestWrite(t *testing.T) { // P1.3
	m := fresh(t, 6)
	want(t, "Write", m.Write(1, "ab"), api.OK)
	want(t, "Write at the end", m.Write(5, "z"), api.OK)
	stands(t, m, "\x00ab\x00\x00z")
	want(t, "Write of all", m.Write(0, "123456"), api.OK)
	stands(t, m, "123456")

	want(t, "Lend", m.Lend(at(2, 2)), api.OK)
	for _, c := range []struct {
		at uint32
		s  string
		e  api.Errno
	}{
		{2, "", api.OK}, // no bytes, where they may be
		{3, "", api.OK},
		{6, "", api.OK},
		{7, "", api.ErrOut},
		{math.MaxUint32, "", api.ErrOut},
		{6, "x", api.ErrOut},
		{5, "xx", api.ErrOut},
		{0, "xxxxxxx", api.ErrOut},
		{2, "xxxxx", api.ErrOut}, // ahead of ErrLent
		{math.MaxUint32, "xx", api.ErrOut},
		{2, "x", api.ErrLent},
		{3, "x", api.ErrLent},
		{1, "xx", api.ErrLent},
		{3, "xx", api.ErrLent},
		{0, "xxxxxx", api.ErrLent},
	} {
		want(t, "Write", m.Write(c.at, c.s), c.e)
		stands(t, m, "123456", at(2, 2))
	}
	want(t, "Write ahead", m.Write(0, "AB"), api.OK)
	want(t, "Write behind", m.Write(4, "EF"), api.OK)
	stands(t, m, "AB34EF", at(2, 2))
}

func TestNumbersAreWritten(t *testing.T) { // P1.3
	m := fresh(t, 10)
	want(t, "Put16", m.Put16(0, 0x8102), api.OK)
	want(t, "Put64", m.Put64(2, 0x8102030405060788), api.OK)
	stands(t, m, "\x02\x81\x88\x07\x06\x05\x04\x03\x02\x81")
	want(t, "Put32", m.Put32(6, 0xf1e2d3c4), api.OK)
	want(t, "Put16", m.Put16(8, 0xb5a6), api.OK)
	stands(t, m, "\x02\x81\x88\x07\x06\x05\xc4\xd3\xa6\xb5")

	all, _ := m.Read(0, 10)
	want(t, "Lend", m.Lend(at(4, 1)), api.OK)
	for _, place := range []uint32{9, 10, 11, math.MaxUint32} {
		want(t, "Put16", m.Put16(place, 1), api.ErrOut)
	}
	for _, place := range []uint32{7, 10, math.MaxUint32} {
		want(t, "Put32", m.Put32(place, 1), api.ErrOut)
	}
	for _, place := range []uint32{3, 4, 10, math.MaxUint32} {
		want(t, "Put64", m.Put64(place, 1), api.ErrOut)
	}
	for _, place := range []uint32{3, 4} {
		want(t, "Put16", m.Put16(place, 1), api.ErrLent)
	}
	for _, place := range []uint32{1, 4} {
		want(t, "Put32", m.Put32(place, 1), api.ErrLent)
	}
	for _, place := range []uint32{0, 2} {
		want(t, "Put64", m.Put64(place, 1), api.ErrLent)
	}
	stands(t, m, all, at(4, 1))
	want(t, "Put16 ahead", m.Put16(2, 0), api.OK)
	want(t, "Put32 behind", m.Put32(5, 0), api.OK)
	stands(t, m, "\x02\x81\x00\x00\x06\x00\x00\x00\x00\xb5", at(4, 1))
}

func TestLendJoins(t *testing.T) { // P1.4
	m := fresh(t, 12)
	none := strings.Repeat("\x00", 12)
	for _, c := range []struct {
		s    api.Span
		lent []api.Span
	}{
		{at(6, 2), []api.Span{at(6, 2)}},
		{at(2, 1), []api.Span{at(2, 1), at(6, 2)}},
		{at(11, 1), []api.Span{at(2, 1), at(6, 2), at(11, 1)}},
		{at(4, 1), []api.Span{at(2, 1), at(4, 1), at(6, 2), at(11, 1)}},
		{at(5, 1), []api.Span{at(2, 1), at(4, 4), at(11, 1)}}, // closes a gap
		{at(8, 1), []api.Span{at(2, 1), at(4, 5), at(11, 1)}}, // behind one
		{at(1, 1), []api.Span{at(1, 2), at(4, 5), at(11, 1)}}, // ahead of one
		{at(0, 1), []api.Span{at(0, 3), at(4, 5), at(11, 1)}},
		{at(9, 2), []api.Span{at(0, 3), at(4, 8)}},
		{at(3, 1), []api.Span{at(0, 12)}},
	} {
		want(t, "Lend", m.Lend(c.s), api.OK)
		stands(t, m, none, c.lent...)
	}
	want(t, "Lend again", m.Lend(at(0, 12)), api.ErrLent)
}

func TestLendErrors(t *testing.T) { // P1.4
	m := fresh(t, 8)
	none := strings.Repeat("\x00", 8)
	want(t, "Lend", m.Lend(at(2, 2)), api.OK)
	want(t, "Lend", m.Lend(at(5, 1)), api.OK)
	for _, c := range []struct {
		s api.Span
		e api.Errno
	}{
		{at(0, 0), api.ErrOut}, // it may not be
		{at(3, 0), api.ErrOut},
		{at(8, 0), api.ErrOut},
		{at(8, 1), api.ErrOut},
		{at(7, 2), api.ErrOut},
		{at(0, 9), api.ErrOut},
		{at(2, 7), api.ErrOut}, // ahead of ErrLent
		{at(math.MaxUint32, 1), api.ErrOut},
		{at(math.MaxUint32, 2), api.ErrOut},
		{at(1, math.MaxUint32), api.ErrOut},
		{at(6, math.MaxUint32-3), api.ErrOut},
		{at(2, 2), api.ErrLent},
		{at(2, 1), api.ErrLent},
		{at(1, 2), api.ErrLent},
		{at(3, 2), api.ErrLent},
		{at(3, 3), api.ErrLent},
		{at(4, 2), api.ErrLent},
		{at(0, 8), api.ErrLent},
		{at(5, 3), api.ErrLent},
	} {
		want(t, "Lend", m.Lend(c.s), c.e)
		stands(t, m, none, at(2, 2), at(5, 1))
	}
	want(t, "Lend up to the end", m.Lend(at(6, 2)), api.OK)
	want(t, "Lend in between", m.Lend(at(4, 1)), api.OK)
	stands(t, m, none, at(2, 6))
}

func TestBackCuts(t *testing.T) { // P1.4
	m := fresh(t, 12)
	none := strings.Repeat("\x00", 12)
	want(t, "Lend", m.Lend(at(0, 12)), api.OK)
	for _, c := range []struct {
		s    api.Span
		lent []api.Span
	}{
		{at(5, 2), []api.Span{at(0, 5), at(7, 5)}},
		{at(2, 1), []api.Span{at(0, 2), at(3, 2), at(7, 5)}},
		{at(9, 1), []api.Span{at(0, 2), at(3, 2), at(7, 2), at(10, 2)}},
		{at(7, 1), []api.Span{at(0, 2), at(3, 2), at(8, 1), at(10, 2)}},  // its beginning
		{at(11, 1), []api.Span{at(0, 2), at(3, 2), at(8, 1), at(10, 1)}}, // its end
		{at(3, 2), []api.Span{at(0, 2), at(8, 1), at(10, 1)}},            // all of it
		{at(10, 1), []api.Span{at(0, 2), at(8, 1)}},
		{at(0, 2), []api.Span{at(8, 1)}},
		{at(8, 1), nil},
	} {
		want(t, "Back", m.Back(c.s), api.OK)
		stands(t, m, none, c.lent...)
	}
	want(t, "Back again", m.Back(at(8, 1)), api.ErrKept)
}

func TestBackErrors(t *testing.T) { // P1.4
	m := fresh(t, 8)
	none := strings.Repeat("\x00", 8)
	want(t, "Lend", m.Lend(at(1, 3)), api.OK)
	want(t, "Lend", m.Lend(at(5, 3)), api.OK)
	for _, c := range []struct {
		s api.Span
		e api.Errno
	}{
		{at(1, 0), api.ErrOut},
		{at(8, 0), api.ErrOut},
		{at(8, 1), api.ErrOut},
		{at(5, 4), api.ErrOut},
		{at(0, 9), api.ErrOut}, // ahead of ErrKept
		{at(math.MaxUint32, 2), api.ErrOut},
		{at(2, math.MaxUint32), api.ErrOut},
		{at(0, 1), api.ErrKept},
		{at(4, 1), api.ErrKept},
		{at(0, 2), api.ErrKept},
		{at(3, 2), api.ErrKept},
		{at(1, 4), api.ErrKept},
		{at(4, 2), api.ErrKept},
		{at(3, 3), api.ErrKept}, // over a gap
		{at(1, 7), api.ErrKept},
		{at(0, 8), api.ErrKept},
	} {
		want(t, "Back", m.Back(c.s), c.e)
		stands(t, m, none, at(1, 3), at(5, 3))
	}
}

func TestSpansSideBySideComeBackTogether(t *testing.T) { // P1.4
	m := fresh(t, 6)
	want(t, "Lend", m.Lend(at(1, 2)), api.OK)
	want(t, "Lend", m.Lend(at(3, 2)), api.OK)
	want(t, "Device over both", m.Device(1, "abcd"), api.OK)
	want(t, "Back over both", m.Back(at(2, 2)), api.OK)
	stands(t, m, "\x00abcd\x00", at(1, 1), at(4, 1))
}

func TestLentIsNewMemory(t *testing.T) { // P1.4, R5
	m := fresh(t, 8)
	want(t, "Lend", m.Lend(at(1, 1)), api.OK)
	want(t, "Lend", m.Lend(at(5, 1)), api.OK)
	l := m.Lent()
	l[0] = at(0, 8)
	_ = append(l[:1], at(7, 1))
	stands(t, m, strings.Repeat("\x00", 8), at(1, 1), at(5, 1))
	l = m.Lent()
	want(t, "Lend", m.Lend(at(3, 1)), api.OK)
	want(t, "Back", m.Back(at(1, 1)), api.OK)
	if !slices.Equal(l, []api.Span{at(1, 1), at(5, 1)}) {
		t.Errorf("what was told is %v now", l)
	}
}

func TestDevice(t *testing.T) { // P1.4
	m := fresh(t, 8)
	want(t, "Lend", m.Lend(at(2, 3)), api.OK)
	want(t, "Lend", m.Lend(at(6, 2)), api.OK)
	want(t, "Device", m.Device(2, "abc"), api.OK)
	want(t, "Device", m.Device(3, "B"), api.OK)
	want(t, "Device at the end", m.Device(6, "yz"), api.OK)
	for _, c := range []struct {
		at uint32
		s  string
		e  api.Errno
	}{
		{0, "", api.OK}, // no bytes, where they may be
		{3, "", api.OK},
		{8, "", api.OK},
		{9, "", api.ErrOut},
		{math.MaxUint32, "", api.ErrOut},
		{8, "x", api.ErrOut},
		{7, "xx", api.ErrOut},
		{0, "xxxxxxxxx", api.ErrOut}, // ahead of ErrKept
		{math.MaxUint32, "xx", api.ErrOut},
		{0, "x", api.ErrKept},
		{5, "x", api.ErrKept},
		{1, "xx", api.ErrKept},
		{4, "xx", api.ErrKept},
		{4, "xxx", api.ErrKept}, // over a gap
		{2, "xxxxxx", api.ErrKept},
	} {
		want(t, "Device", m.Device(c.at, c.s), c.e)
		stands(t, m, "\x00\x00aBc\x00yz", at(2, 3), at(6, 2))
	}
	want(t, "Back", m.Back(at(3, 1)), api.OK)
	want(t, "Device of what came back", m.Device(3, "x"), api.ErrKept)
	stands(t, m, "\x00\x00aBc\x00yz", at(2, 1), at(4, 1), at(6, 2))
}

func TestGreatestMemory(t *testing.T) { // P1.2 to P1.4, at MaxMem
	m := fresh(t, api.MaxMem)
	want(t, "Put64", m.Put64(api.MaxMem-8, math.MaxUint64), api.OK)
	want(t, "Put64", m.Put64(api.MaxMem-7, 0), api.ErrOut)
	if x, e := m.U64(api.MaxMem - 8); x != math.MaxUint64 || e != api.OK {
		t.Errorf("U64: %x %v", x, e)
	}
	want(t, "Lend of all", m.Lend(at(0, api.MaxMem)), api.OK)
	want(t, "Device of all", m.Device(0, strings.Repeat("d", api.MaxMem)), api.OK)
	want(t, "Device beyond", m.Device(0, strings.Repeat("e", api.MaxMem+1)), api.ErrOut)
	want(t, "Back of the last", m.Back(at(api.MaxMem-1, 1)), api.OK)
	stands(t, m, strings.Repeat("d", api.MaxMem), at(0, api.MaxMem-1))
}

func TestManySpans(t *testing.T) { // P1.4
	const n = 1 << 12
	m := fresh(t, 2*n)
	for i := range uint32(n) {
		want(t, "Lend", m.Lend(at(2*(i*5%n), 1)), api.OK)
	}
	l := m.Lent()
	if len(l) != n {
		t.Fatalf("%d spans", len(l))
	}
	for i, s := range l {
		if s != at(uint32(2*i), 1) {
			t.Fatalf("span %d is %v", i, s)
		}
	}
	for i := range uint32(n) {
		want(t, "Lend of a gap", m.Lend(at(2*(i*3%n)+1, 1)), api.OK)
	}
	if l := m.Lent(); !slices.Equal(l, []api.Span{at(0, 2*n)}) {
		t.Errorf("lent is %v", l)
	}
}

func TestNoMemory(t *testing.T) { // P1.1 to P1.4, R3
	for name, m := range nones() {
		t.Run(name, func(t *testing.T) {
			if m.Size() != 0 || len(m.Lent()) != 0 {
				t.Error("it has bytes, or lends them")
			}
			for _, n := range []int{0, 1, -1} { // ErrNil is ahead of ErrArg
				if s, e := m.Read(0, n); s != "" || e != api.ErrNil {
					t.Errorf("Read: %q %v", s, e)
				}
			}
			x, e := m.U16(0)
			y, f := m.U32(0)
			z, g := m.U64(math.MaxUint32)
			if x != 0 || y != 0 || z != 0 || e != api.ErrNil || f != api.ErrNil || g != api.ErrNil {
				t.Error("numbers:", x, e, y, f, z, g)
			}
			want(t, "Write", m.Write(0, ""), api.ErrNil)
			want(t, "Write", m.Write(math.MaxUint32, "x"), api.ErrNil)
			want(t, "Put16", m.Put16(0, 1), api.ErrNil)
			want(t, "Put32", m.Put32(0, 1), api.ErrNil)
			want(t, "Put64", m.Put64(0, 1), api.ErrNil)
			want(t, "Lend", m.Lend(at(0, 1)), api.ErrNil)
			want(t, "Lend", m.Lend(at(0, 0)), api.ErrNil)
			want(t, "Back", m.Back(at(0, 1)), api.ErrNil)
			want(t, "Device", m.Device(0, ""), api.ErrNil)
			want(t, "Device", m.Device(1, "x"), api.ErrNil)
			if m.Size() != 0 {
				t.Error("it came to be")
			}
		})
	}
}

func TestErrorsAreNumbers(t *testing.T) { // R7
	for e, text := range map[api.Errno]string{api.ErrOut: "error 10", api.ErrLent: "error 11", api.ErrKept: "error 12"} {
		if error(e).Error() != text {
			t.Errorf("%q, want %q", e.Error(), text)
		}
	}
}
