package vnet_test

import (
	"math"
	"slices"
	"strings"
	"testing"

	"pharos/api"
	"pharos/mem"
	"pharos/ring"
	"pharos/vnet"
)

// ringSizes: how many bytes rings have, by the document, and how many once they are rounded.
var ringSizes = map[int][2]int{1: {38, 48}, 2: {66, 80}, 4: {118, 128}, 8: {222, 224}, 16: {430, 432}, 32: {846, 848}, 64: {1678, 1680}}

func conf(rx, tx, buf int) api.NetConf { return api.NetConf{Rx: rx, Tx: tx, Buf: buf} }

func span(at, n uint32) api.Span { return api.Span{At: at, Len: n} }

// memory is a new memory of so many bytes, each of which is 'm'.
func memory(t *testing.T, size int) *mem.Mem {
	t.Helper()
	m, e := mem.New(size)
	if e != api.OK || m.Write(0, strings.Repeat("m", size)) != api.OK {
		t.Fatalf("mem.New(%d): %v", size, e)
	}
	return m
}

// card is a card, its memory, and where its parts stand.
type card struct {
	*vnet.Net
	t          *testing.T
	m          *mem.Mem
	c          api.NetConf
	in, out    int // the rings
	come, goes int // the pools
	came, went int // how many chains the device has used
}

// at makes a card at a place of a memory that ends just behind it.
func at(t *testing.T, from int, c api.NetConf) *card {
	t.Helper()
	m := memory(t, from+vnet.Size(c))
	n, e := vnet.New(m, uint32(from), c)
	if n == nil || e != api.OK {
		t.Fatalf("New(%d, %v): %v", from, c, e)
	}
	k := &card{Net: n, t: t, m: m, c: c, in: from}
	k.out = k.in + ringSizes[c.Rx][1]
	k.come = k.out + ringSizes[c.Tx][1]
	k.goes = k.come + c.Rx*c.Buf
	return k
}

func fresh(t *testing.T, rx, tx, buf int) *card {
	t.Helper()
	return at(t, 0, conf(rx, tx, buf))
}

// low is the n lowest bytes of a number, the lowest first.
func low(x uint64, n int) string {
	var b []byte
	for range n {
		b = append(b, byte(x))
		x >>= 8
	}
	return string(b)
}

// device writes for the device, and fails if it can't.
func (k *card) device(at uint32, s string) {
	k.t.Helper()
	if e := k.m.Device(at, s); e != api.OK {
		k.t.Fatalf("Device(%d, %q): %v", at, s, e)
	}
}

func (k *card) read(at, n int) string {
	k.t.Helper()
	s, e := k.m.Read(uint32(at), n)
	if e != api.OK {
		k.t.Fatalf("Read(%d, %d): %v", at, n, e)
	}
	return s
}

// entry writes an entry of the used part of a ring of so many descriptors.
func (k *card) entry(r *ring.Ring, size, count int, head, n uint32) {
	k.t.Helper()
	k.device(r.Used()+4+8*uint32(count%size), low(uint64(head), 4)+low(uint64(n), 4))
}

// index writes the index of the used part of a ring.
func (k *card) index(r *ring.Ring, x int) {
	k.t.Helper()
	k.device(r.Used()+2, low(uint64(x), 2))
}

// put writes into the buffer of the first ring that has this head.
func (k *card) put(head int, s string) {
	k.t.Helper()
	l, e := k.Rx().Chain(uint16(head))
	if e != api.OK || len(l) != 1 {
		k.t.Fatalf("Chain(%d): %v %v", head, l, e)
	}
	k.device(l[0].At, s)
}

// bring writes into a buffer of the first ring, and uses it with n bytes.
func (k *card) bring(head int, s string, n int) {
	k.t.Helper()
	k.put(head, s)
	k.entry(k.Rx(), k.c.Rx, k.came, uint32(head), uint32(n))
	k.came++
	k.index(k.Rx(), k.came)
}

// take uses a buffer of the second ring: what stands in it.
func (k *card) take(head int) string {
	k.t.Helper()
	l, e := k.Tx().Chain(uint16(head))
	if e != api.OK || len(l) != 1 || l[0].In {
		k.t.Fatalf("Chain(%d): %v %v", head, l, e)
	}
	k.entry(k.Tx(), k.c.Tx, k.went, uint32(head), 0)
	k.went++
	k.index(k.Tx(), k.went)
	return k.read(int(l[0].At), int(l[0].Len))
}

// told fails unless Recv tells just these frames and that.
func (k *card) told(want api.Errno, frames ...string) {
	k.t.Helper()
	if l, e := k.Recv(); !slices.Equal(l, frames) || e != want {
		k.t.Fatalf("Recv: %.40q %v, want %.40q %v", l, e, frames, want)
	}
}

// sent fails unless Send answers that.
func (k *card) sent(frame string, want api.Errno) {
	k.t.Helper()
	if e := k.Send(frame); e != want {
		k.t.Fatalf("Send of %d bytes: %v, want %v", len(frame), e, want)
	}
}

// lost fails unless so many were lost.
func (k *card) lost(in, out int) {
	k.t.Helper()
	if i, o := k.Lost(); i != in || o != out {
		k.t.Fatalf("Lost: %d %d, want %d %d", i, o, in, out)
	}
}

// whole fails unless each buffer of the first pool waits in the first ring, once, whole, and is lent.
func (k *card) whole() {
	k.t.Helper()
	var places []int
	for h := range k.c.Rx {
		l, e := k.Rx().Chain(uint16(h))
		if e != api.OK || len(l) != 1 || !l[0].In || int(l[0].Len) != k.c.Buf {
			k.t.Fatalf("Chain(%d): %v %v", h, l, e)
		}
		places = append(places, int(l[0].At))
	}
	slices.Sort(places)
	for i, p := range places {
		if p != k.come+i*k.c.Buf {
			k.t.Fatalf("the buffers that wait stand at %v, from %d on", places, k.come)
		}
	}
	if !slices.Equal(k.m.Lent(), k.lent()) {
		k.t.Fatalf("lent is %v, must be %v", k.m.Lent(), k.lent())
	}
	if k.Rx().Waits() != k.c.Rx || k.Rx().Left() != 0 {
		k.t.Fatalf("%d wait, %d are left", k.Rx().Waits(), k.Rx().Left())
	}
}

// lent is what a card has lent: both used parts, and the first pool.
func (k *card) lent() []api.Span {
	a := span(k.Rx().Used(), uint32(6+8*k.c.Rx))
	b := span(k.Tx().Used(), uint32(6+8*k.c.Tx))
	return []api.Span{a, b, span(uint32(k.come), uint32(k.c.Rx*k.c.Buf))}
}

// zeros is so many bytes 0.
func zeros(n int) string { return strings.Repeat("\x00", n) }

// head is what stands ahead of a frame that came.
const head = "\x00\x00\x00\x00\x00\x00\x00\x00\x00\x00\x01\x00"

// frame is a frame of so many bytes, no two next to each other the same.
func frame(n int) string {
	b := make([]byte, n)
	for i := range b {
		b[i] = byte(i%251 + n)
	}
	return string(b)
}

func TestNegotiate(t *testing.T) { // P3.1
	const both = api.FeatVersion1 | api.FeatMac
	for _, c := range []struct {
		features, want uint64
		e              api.Errno
	}{
		{1<<32 + 1<<5 + 1, 1<<32 + 1<<5, api.OK}, {1 << 5, 0, api.ErrFeature}, {0, 0, api.ErrFeature},
		{1 << 32, 1 << 32, api.OK}, {both, both, api.OK}, {1<<32 + 1, 1 << 32, api.OK}, {math.MaxUint64, both, api.OK},
		{math.MaxUint64 - 1<<32, 0, api.ErrFeature}, {math.MaxUint64 - 1<<5, 1 << 32, api.OK},
		{1 << 31, 0, api.ErrFeature}, {1 << 33, 0, api.ErrFeature}, {1<<32 + 1<<4 + 1<<6, 1 << 32, api.OK},
	} {
		if f, e := vnet.Negotiate(c.features); f != c.want || e != c.e {
			t.Errorf("Negotiate(%x): %x %v, want %x %v", c.features, f, e, c.want, c.e)
		}
	}
	for bit := range 64 {
		want := uint64(1 << 32)
		if bit == 5 {
			want = both
		}
		if f, e := vnet.Negotiate(1<<32 | 1<<bit); f != want || e != api.OK {
			t.Errorf("Negotiate of bit %d: %x %v", bit, f, e)
		}
	}
}

func TestSize(t *testing.T) { // P3.1
	for _, c := range []struct{ rx, tx, buf, want int }{
		{2, 2, 128, 80 + 80 + 512}, {1, 1, 64, 48 + 48 + 128}, {64, 64, 2048, 1680 + 1680 + 128*2048},
		{1, 64, 65, 48 + 1680 + 65*65}, {64, 1, 2047, 1680 + 48 + 65*2047}, {4, 8, 1536, 128 + 224 + 12*1536},
	} {
		if n := vnet.Size(conf(c.rx, c.tx, c.buf)); n != c.want {
			t.Errorf("Size(%d, %d, %d): %d, want %d", c.rx, c.tx, c.buf, n, c.want)
		}
	}
	for rx := -2; rx <= 260; rx++ {
		for tx := -2; tx <= 260; tx++ {
			for _, buf := range []int{63, 64, 100, 2048, 2049} {
				a, b, want := ringSizes[rx][1], ringSizes[tx][1], 0
				if a > 0 && b > 0 && buf != 63 && buf != 2049 {
					want = a + b + (rx+tx)*buf
				}
				if n := vnet.Size(conf(rx, tx, buf)); n != want {
					t.Fatalf("Size(%d, %d, %d): %d, want %d", rx, tx, buf, n, want)
				}
			}
		}
	}
	for _, c := range wrong() {
		if n := vnet.Size(c); n != 0 {
			t.Errorf("Size(%v): %d", c, n)
		}
	}
}

// wrong is confs that may not be.
func wrong() []api.NetConf {
	l := []api.NetConf{{}}
	for _, n := range []int{0, -1, 3, 5, 63, 65, 96, 128, 256, 512, 1 << 32, math.MaxInt, math.MinInt, 1<<32 + 2} {
		l = append(l, conf(n, 2, 128), conf(2, n, 128), conf(n, n, 128))
	}
	for _, n := range []int{0, -1, -64, 63, 2049, 4096, 1 << 32, 1<<32 + 128, math.MaxInt, math.MinInt} {
		l = append(l, conf(2, 2, n), conf(3, 2, n))
	}
	return l
}

func TestNew(t *testing.T) { // P3.2, P3.5
	for _, c := range []api.NetConf{
		conf(1, 1, 64), conf(64, 64, 2048), conf(1, 64, 2048), conf(64, 1, 64), conf(2, 2, 128), conf(4, 8, 1536), conf(8, 16, 77),
	} {
		for _, from := range []int{0, 16, 4096} {
			k := at(t, from, c)
			if int(k.Rx().Avail()) != k.in+16*c.Rx || int(k.Tx().Avail()) != k.out+16*c.Tx {
				t.Errorf("%v at %d: the rings' available parts at %d, %d", c, from, k.Rx().Avail(), k.Tx().Avail())
			}
			k.whole()
			k.lost(0, 0)
			if k.Tx().Waits() != 0 || k.Tx().Left() != c.Tx || k.Rx().Broken() || k.Tx().Broken() {
				t.Errorf("%v at %d: the second ring has chains, or one is broken", c, from)
			}
			if s := k.read(0, k.m.Size()); s != newBytes(k, from) {
				t.Errorf("%v at %d: the bytes are %.200q", c, from, s)
			}
			k.told(api.OK)
		}
	}
}

// newBytes is what memory has behind New: buffer by buffer is made available, in order, nothing else is touched but the rings.
func newBytes(k *card, from int) string {
	var b strings.Builder
	b.WriteString(strings.Repeat("m", from))
	for i := range k.c.Rx {
		b.WriteString(low(uint64(k.come+i*k.c.Buf), 8) + low(uint64(k.c.Buf), 4) + "\x02\x00\x00\x00")
	}
	b.WriteString("\x00\x00" + low(uint64(k.c.Rx), 2))
	for i := range k.c.Rx {
		b.WriteString(low(uint64(i), 2))
	}
	b.WriteString(zeros(from + ringSizes[k.c.Rx][0] - b.Len()))
	b.WriteString(strings.Repeat("m", k.out-b.Len()))
	b.WriteString(zeros(ringSizes[k.c.Tx][0]))
	b.WriteString(strings.Repeat("m", k.m.Size()-b.Len()))
	return b.String()
}

// refused fails unless New answers that, and leaves the memory as it is.
func refused(t *testing.T, m *mem.Mem, from uint32, c api.NetConf, want api.Errno) {
	t.Helper()
	bytes, _ := m.Read(0, m.Size())
	lent := m.Lent()
	if n, e := vnet.New(m, from, c); n != nil || e != want {
		t.Fatalf("New(%d, %v): %v %v, want %v", from, c, n, e, want)
	}
	if now, _ := m.Read(0, m.Size()); now != bytes || !slices.Equal(m.Lent(), lent) {
		t.Fatalf("New(%d, %v), refused, changes memory", from, c)
	}
}

func TestNewErrors(t *testing.T) { // P3.2
	for _, none := range []*mem.Mem{nil, {}, new(mem.Mem)} {
		for _, c := range append(wrong(), conf(2, 2, 128)) { // ahead of all else
			for _, from := range []uint32{0, 1, math.MaxUint32} {
				refused(t, none, from, c, api.ErrNil)
			}
		}
	}
	m := memory(t, 4000)
	if e := m.Lend(span(0, 16)); e != api.OK {
		t.Fatal(e)
	}
	for _, c := range wrong() { // ahead of ErrOut and ErrLent
		for _, from := range []uint32{0, 1, 16, 3984, math.MaxUint32 - 15} {
			refused(t, m, from, c, api.ErrArg)
		}
	}
	c := conf(2, 2, 128)
	for _, from := range []uint32{1, 2, 4, 8, 15, 17, 3999, 4001, math.MaxUint32} { // ahead of ErrOut and ErrLent
		refused(t, m, from, c, api.ErrArg)
	}
	for _, from := range []uint32{3984, 4000, 4016, 1 << 20, 1 << 31, math.MaxUint32 - 15, math.MaxUint32 - 79} {
		refused(t, m, from, c, api.ErrOut)
	}
	refused(t, m, 0, c, api.ErrLent)
	refused(t, m, 0, conf(64, 64, 2048), api.ErrLent) // of the first ring, ahead of ErrOut of a pool
	if _, e := vnet.New(m, 16, c); e != api.OK {
		t.Error(e)
	}
}

func TestNewEndsAtTheEnd(t *testing.T) { // P3.2: wherever memory ends
	for _, c := range []api.NetConf{conf(1, 1, 64), conf(2, 4, 65), conf(4, 2, 100)} {
		for _, from := range []int{0, 32} {
			for size := 1; size < from+vnet.Size(c); size++ {
				refused(t, memory(t, size), uint32(from), c, api.ErrOut)
			}
			at(t, from, c)
		}
	}
}

func TestNewOverLent(t *testing.T) { // P3.2: a byte of a ring, or of a buffer that must be lent, is lent; one of another
	c := conf(2, 2, 64)
	size := 16 + vnet.Size(c) + 1
	for from := range size {
		m := memory(t, size)
		if e := m.Lend(span(uint32(from), 1)); e != api.OK {
			t.Fatal(e)
		}
		k := from - 16
		if k >= 0 && k < 66 || k >= 80 && k < 146 || k >= 160 && k < 288 {
			refused(t, m, 16, c, api.ErrLent)
			if e := m.Back(span(uint32(from), 1)); e != api.OK {
				t.Fatal(e)
			}
		}
		if n, e := vnet.New(m, 16, c); n == nil || e != api.OK {
			t.Fatalf("with byte %d lent: %v", from, e)
		}
	}
}

func TestNewErrorsOfEachPart(t *testing.T) { // P3.2: the first part that can't be made says why
	c := conf(2, 2, 64)
	for _, x := range []struct {
		size int
		lend uint32
		e    api.Errno
	}{
		{66, 65, api.ErrLent}, {65, 64, api.ErrOut}, // the first ring's, ahead of the second one's
		{146, 65, api.ErrLent}, {146, 145, api.ErrLent}, {145, 144, api.ErrOut}, // the second one's, ahead of a pool's
		{288, 145, api.ErrLent}, {287, 145, api.ErrLent}, {287, 200, api.ErrOut}, {288, 200, api.ErrOut}, // a pool's, ahead of Add's
		{415, 414, api.ErrOut}, {416, 200, api.ErrLent},
	} {
		m := memory(t, x.size)
		if e := m.Lend(span(x.lend, 1)); e != api.OK {
			t.Fatal(e)
		}
		refused(t, m, 0, c, x.e)
	}
}

func TestNewTwice(t *testing.T) { // P3.2, R6: two cards side by side
	c := conf(2, 2, 64)
	size := vnet.Size(c)
	m := memory(t, 2*size)
	a, e := vnet.New(m, 0, c)
	if e != api.OK {
		t.Fatal(e)
	}
	refused(t, m, 0, c, api.ErrLent)
	b, e := vnet.New(m, uint32(size), c)
	if e != api.OK {
		t.Fatal(e)
	}
	for range 2 {
		if e := a.Send(frame(14)); e != api.OK {
			t.Error(e)
		}
	}
	if e := a.Send(frame(14)); e != api.ErrFull {
		t.Error(e)
	}
	if e := b.Send(frame(14)); e != api.OK {
		t.Error("what one card sends fills the other one:", e)
	}
	if _, out := b.Lost(); out != 0 || a.Rx() == b.Rx() || a.Tx() == b.Tx() || a.Rx() == a.Tx() {
		t.Error("two cards share something")
	}
}

func TestNoNet(t *testing.T) { // R3, P3.5
	for _, n := range []*vnet.Net{nil, {}, new(vnet.Net)} {
		if l, e := n.Recv(); l != nil || e != api.ErrNil {
			t.Errorf("Recv: %v %v", l, e)
		}
		for _, s := range []string{"", frame(13), frame(14), frame(1515), frame(5000)} { // ahead of ErrArg and ErrLong
			if e := n.Send(s); e != api.ErrNil {
				t.Errorf("Send of %d: %v", len(s), e)
			}
		}
		if in, out := n.Lost(); in != 0 || out != 0 {
			t.Errorf("Lost: %d %d", in, out)
		}
		if n.Rx() != nil || n.Tx() != nil {
			t.Error("there is a ring of no card")
		}
	}
}

func TestRings(t *testing.T) { // P3.5
	k := fresh(t, 2, 4, 64)
	if k.Rx() != k.Rx() || k.Tx() != k.Tx() || k.Rx() == k.Tx() {
		t.Error("a ring is not the same each time, or both are one")
	}
	if k.Rx().Left()+k.Rx().Waits() != 2 || k.Tx().Left()+k.Tx().Waits() != 4 {
		t.Error("the rings are the wrong way round")
	}
}
