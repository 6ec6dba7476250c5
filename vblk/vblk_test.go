package vblk_test

import (
	"math"
	"slices"
	"strconv"
	"strings"
	"testing"

	"pharos/api"
	"pharos/mem"
	"pharos/vblk"
)

// ringSizes: how many bytes rings have, by the document, and how many once they are rounded.
var ringSizes = map[int][2]int{
	1: {38, 48}, 2: {66, 80}, 4: {118, 128}, 8: {222, 224}, 16: {430, 432},
	32: {846, 848}, 64: {1678, 1680}, 128: {3342, 3344}, 256: {6670, 6672},
}

func conf(ring, slots int, blocks uint32) api.BlkConf {
	return api.BlkConf{Ring: ring, Slots: slots, Blocks: blocks}
}

func span(at, n uint32) api.Span { return api.Span{At: at, Len: n} }

// memory is a new memory of so many bytes, each of which is 'm'.
func memory(t *testing.T, size int) *mem.Mem {
	t.Helper()
	m, e := mem.New(size)
	if e != api.OK || m.Write(0, strings.Repeat("m", size)) != api.OK {
		t.Fatalf("mem.New(%d): %v", size, e)
	}
	return m
}

// drive is a disk, its memory, and where its parts stand.
type drive struct {
	*vblk.Disk
	t    *testing.T
	m    *mem.Mem
	c    api.BlkConf
	pool int
	used int // how many chains the device has used
}

// at makes a disk at a place of a memory that ends just behind it.
func at(t *testing.T, from int, c api.BlkConf) *drive {
	t.Helper()
	m := memory(t, from+vblk.Size(c))
	d, e := vblk.New(m, uint32(from), c)
	if d == nil || e != api.OK {
		t.Fatalf("New(%d, %v): %v", from, c, e)
	}
	return &drive{Disk: d, t: t, m: m, c: c, pool: from + ringSizes[c.Ring][1]}
}

func fresh(t *testing.T, ring, slots int, blocks uint32) *drive {
	t.Helper()
	return at(t, 0, conf(ring, slots, blocks))
}

// low is the n lowest bytes of a number, the lowest first.
func low(x uint64, n int) string {
	var b []byte
	for range n {
		b = append(b, byte(x))
		x >>= 8
	}
	return string(b)
}

// block is what stands in a block, no two of them the same.
func block(k int) string {
	b := make([]byte, 1024)
	for i := range b {
		b[i] = byte(i%251 + k + i/256*(k>>8))
	}
	return low(uint64(k), 4) + string(b[4:])
}

// device writes for the device, and fails if it can't.
func (k *drive) device(at uint32, s string) {
	k.t.Helper()
	if e := k.m.Device(at, s); e != api.OK {
		k.t.Fatalf("Device(%d, %.20q): %v", at, s, e)
	}
}

func (k *drive) look(at, n int) string {
	k.t.Helper()
	s, e := k.m.Read(uint32(at), n)
	if e != api.OK {
		k.t.Fatalf("Read(%d, %d): %v", at, n, e)
	}
	return s
}

// chain is the three buffers of the request that has this head.
func (k *drive) chain(head int) []api.Buf {
	k.t.Helper()
	l, e := k.Ring().Chain(uint16(head))
	if e != api.OK || len(l) != 3 {
		k.t.Fatalf("Chain(%d): %v %v", head, l, e)
	}
	return l
}

// entry writes the used part's entry behind so many.
func (k *drive) entry(count int, head, n uint32) {
	k.t.Helper()
	k.device(k.Ring().Used()+4+8*uint32(count%k.c.Ring), low(uint64(head), 4)+low(uint64(n), 4))
}

// index writes the index of the used part.
func (k *drive) index(x int) {
	k.t.Helper()
	k.device(k.Ring().Used()+2, low(uint64(x), 2))
}

// use is what a device does with a chain: it writes data and a status, and says that it wrote n bytes.
func (k *drive) use(head int, data, status string, n uint32) {
	k.t.Helper()
	l := k.chain(head)
	k.device(l[1].At, data)
	k.device(l[2].At, status)
	k.entry(k.used, uint32(head), n)
	k.used++
	k.index(k.used)
}

// bring answers a request as it must be.
func (k *drive) bring(head int, data string) {
	k.t.Helper()
	k.use(head, data, "\x00", 1025)
}

// asked fails unless Read answers that number.
func (k *drive) asked(block, want uint32) {
	k.t.Helper()
	if id, e := k.Read(block); id != want || e != api.OK {
		k.t.Fatalf("Read(%d): %d %v, want %d", block, id, e, want)
	}
}

// refused fails unless Read answers that error.
func (k *drive) refused(block uint32, want api.Errno) {
	k.t.Helper()
	if id, e := k.Read(block); id != 0 || e != want {
		k.t.Fatalf("Read(%d): %d %v, want %v", block, id, e, want)
	}
}

// told fails unless Poll tells just these answers and that.
func (k *drive) told(want api.Errno, answers ...api.Block) {
	k.t.Helper()
	if l, e := k.Poll(); !slices.Equal(l, answers) || e != want {
		k.t.Fatalf("Poll: %v %v, want %v %v", brief(l), e, brief(answers), want)
	}
}

// brief is answers with the beginnings of their data alone.
func brief(l []api.Block) []api.Block {
	l = slices.Clone(l)
	for i := range l {
		l[i].Data = strconv.Quote(l[i].Data[:min(8, len(l[i].Data))])
	}
	return l
}

// waiting fails unless so many requests wait, and so many chains.
func (k *drive) waiting(requests, chains int) {
	k.t.Helper()
	if k.Waits() != requests || k.Ring().Waits() != chains || k.Ring().Left() != k.c.Ring-3*chains {
		k.t.Fatalf("%d requests and %d chains wait, want %d and %d", k.Waits(), k.Ring().Waits(), requests, chains)
	}
}

// over fails unless the disk has failed, for ever, and neither asks nor believes anything any more.
func (k *drive) over() {
	k.t.Helper()
	before := k.all()
	for _, b := range []uint32{0, k.c.Blocks - 1, k.c.Blocks, math.MaxUint32} { // ahead of ErrArg
		k.refused(b, api.ErrFailed)
		k.told(api.ErrFailed)
		if !k.Failed() {
			k.t.Fatal("it has not failed")
		}
	}
	if !slices.Equal(k.all(), before) {
		k.t.Fatal("a disk that has failed changes something")
	}
}

// all is what can be seen of a disk and its memory.
func (k *drive) all() []string {
	l := []string{k.look(0, k.m.Size())}
	for _, s := range k.m.Lent() {
		l = append(l, low(uint64(s.At), 4)+low(uint64(s.Len), 4))
	}
	return append(l, low(uint64(k.Waits()), 2)+low(uint64(k.Ring().Waits()), 2)+low(uint64(k.Ring().Left()), 2))
}

func good(id, block uint32, data string) api.Block {
	return api.Block{ID: id, Block: block, Data: data}
}

func bad(id, block uint32) api.Block { return api.Block{ID: id, Block: block, Err: api.ErrIO} }

func TestSize(t *testing.T) { // P4.1
	for _, c := range []struct {
		c    api.BlkConf
		want int
	}{
		{conf(4, 1, 8), 128 + 1041}, {conf(1, 1, 1), 48 + 1041}, {conf(256, 32, 65536), 6672 + 32*1041},
		{conf(2, 32, 1), 80 + 32*1041}, {conf(128, 31, 65535), 3344 + 31*1041},
	} {
		if n := vblk.Size(c.c); n != c.want {
			t.Errorf("Size(%v): %d, want %d", c.c, n, c.want)
		}
	}
	for ring := -2; ring <= 520; ring++ {
		for slots := -2; slots <= 40; slots++ {
			for _, blocks := range []uint32{0, 1, 2, 65535, 65536, 65537} {
				want := 0
				if r := ringSizes[ring][1]; r > 0 && slots >= 1 && slots <= 32 && blocks != 0 && blocks != 65537 {
					want = r + slots*1041
				}
				if n := vblk.Size(conf(ring, slots, blocks)); n != want {
					t.Fatalf("Size(%d, %d, %d): %d, want %d", ring, slots, blocks, n, want)
				}
			}
		}
	}
	for _, c := range wrong() {
		if n := vblk.Size(c); n != 0 {
			t.Errorf("Size(%v): %d", c, n)
		}
	}
}

// wrong is confs that may not be.
func wrong() []api.BlkConf {
	l := []api.BlkConf{{}}
	for _, n := range []int{0, -1, -4, 3, 5, 6, 255, 257, 512, 1 << 32, 1<<32 + 4, math.MaxInt, math.MinInt} {
		l = append(l, conf(n, 1, 8), conf(n, 0, 8), conf(n, 1, 0))
	}
	for _, n := range []int{0, -1, 33, 64, 1 << 32, 1<<32 + 1, math.MaxInt, math.MinInt} {
		l = append(l, conf(4, n, 8), conf(4, n, 0))
	}
	for _, n := range []uint32{0, 65537, 1 << 17, 1 << 31, math.MaxUint32} {
		l = append(l, conf(4, 1, n))
	}
	return l
}

func TestNew(t *testing.T) { // P4.1, P4.4: a disk without requests; its ring alone is written
	for _, c := range []api.BlkConf{
		conf(4, 1, 8), conf(1, 1, 1), conf(256, 32, 65536), conf(2, 32, 1), conf(128, 1, 65536), conf(8, 3, 7),
	} {
		for _, from := range []int{0, 16, 4096} {
			k := at(t, from, c)
			size := ringSizes[c.Ring][0]
			want := strings.Repeat("m", from) + strings.Repeat("\x00", size)
			want += strings.Repeat("m", k.m.Size()-len(want))
			if k.look(0, k.m.Size()) != want {
				t.Errorf("%v at %d: other bytes than the ring's are changed, or one of these is not 0", c, from)
			}
			if int(k.Ring().Avail()) != from+16*c.Ring {
				t.Errorf("%v at %d: the ring's available part is at %d", c, from, k.Ring().Avail())
			}
			if l := k.m.Lent(); !slices.Equal(l, []api.Span{span(k.Ring().Used(), uint32(6+8*c.Ring))}) {
				t.Errorf("%v at %d: lent is %v", c, from, l)
			}
			k.waiting(0, 0)
			k.told(api.OK)
			if k.Failed() || k.Ring().Broken() {
				t.Errorf("%v at %d: it has failed", c, from)
			}
		}
	}
}

// notMade fails unless New answers that, and leaves the memory as it is.
func notMade(t *testing.T, m *mem.Mem, from uint32, c api.BlkConf, want api.Errno) {
	t.Helper()
	bytes, _ := m.Read(0, m.Size())
	lent := m.Lent()
	if d, e := vblk.New(m, from, c); d != nil || e != want {
		t.Fatalf("New(%d, %v): %v %v, want %v", from, c, d, e, want)
	}
	if now, _ := m.Read(0, m.Size()); now != bytes || !slices.Equal(m.Lent(), lent) {
		t.Fatalf("New(%d, %v), refused, changes memory", from, c)
	}
}

func TestNewErrors(t *testing.T) { // P4.1: in their order
	for _, none := range []*mem.Mem{nil, {}, new(mem.Mem)} {
		for _, c := range append(wrong(), conf(4, 1, 8)) { // ahead of all else
			for _, from := range []uint32{0, 1, math.MaxUint32} {
				notMade(t, none, from, c, api.ErrNil)
			}
		}
	}
	m := memory(t, 4000)
	if e := m.Lend(span(0, 16)); e != api.OK {
		t.Fatal(e)
	}
	for _, c := range wrong() { // ahead of ErrOut and ErrLent
		for _, from := range []uint32{0, 1, 16, 3984, math.MaxUint32 - 15} {
			notMade(t, m, from, c, api.ErrArg)
		}
	}
	c := conf(4, 1, 8)
	for _, from := range []uint32{1, 2, 4, 8, 15, 17, 3999, 4001, math.MaxUint32} { // ahead of ErrOut and ErrLent
		notMade(t, m, from, c, api.ErrArg)
	}
	for _, from := range []uint32{2832, 3984, 4000, 4016, 1 << 20, 1 << 31, math.MaxUint32 - 15, math.MaxUint32 - 127} {
		notMade(t, m, from, c, api.ErrOut)
	}
	notMade(t, m, 0, c, api.ErrLent)
	notMade(t, m, 0, conf(4, 32, 8), api.ErrLent) // of the ring, ahead of ErrOut of the pool
	if _, e := vblk.New(m, 16, c); e != api.OK {
		t.Error(e)
	}
}

func TestNewEndsAtTheEnd(t *testing.T) { // P4.1: wherever memory ends
	for _, c := range []api.BlkConf{conf(1, 1, 1), conf(4, 2, 8)} {
		for _, from := range []int{0, 32} {
			for size := 1; size < from+vblk.Size(c); size++ {
				notMade(t, memory(t, size), uint32(from), c, api.ErrOut)
			}
			at(t, from, c)
		}
	}
}

func TestNewOverLent(t *testing.T) { // P4.1: a byte of the ring is lent; one of another part is no error
	c := conf(4, 1, 8)
	size := 16 + vblk.Size(c) + 1
	for from := range size {
		m := memory(t, size)
		if e := m.Lend(span(uint32(from), 1)); e != api.OK {
			t.Fatal(e)
		}
		if from >= 16 && from < 16+118 {
			notMade(t, m, 16, c, api.ErrLent)
		} else if d, e := vblk.New(m, 16, c); d == nil || e != api.OK {
			t.Fatalf("with byte %d lent: %v", from, e)
		}
	}
	m := memory(t, vblk.Size(c)-1) // the pool's error: the memory is as it was, whatever is lent beside the ring
	if e := m.Lend(span(118, 1)); e != api.OK {
		t.Fatal(e)
	}
	notMade(t, m, 0, c, api.ErrOut)
}

func TestNewTwice(t *testing.T) { // P4.1, R6: two disks side by side
	c := conf(4, 1, 8)
	size := (vblk.Size(c) + 15) / 16 * 16
	m := memory(t, 2*size)
	a, e := vblk.New(m, 0, c)
	if e != api.OK {
		t.Fatal(e)
	}
	notMade(t, m, 0, c, api.ErrLent)
	b, e := vblk.New(m, uint32(size), c)
	if e != api.OK {
		t.Fatal(e)
	}
	for _, d := range []*vblk.Disk{a, b} {
		if id, e := d.Read(7); id != 1 || e != api.OK {
			t.Error("what is asked of one disk changes the other one:", id, e)
		}
	}
	if e := m.Device(a.Ring().Used()+2, "\x02\x00"); e != api.OK {
		t.Fatal(e)
	}
	if _, e := a.Poll(); e != api.ErrFailed || !a.Failed() {
		t.Error(e)
	}
	if l, e := b.Poll(); len(l) != 0 || e != api.OK || b.Failed() || b.Waits() != 1 || a.Ring() == b.Ring() {
		t.Error("one disk's failing changes the other one:", l, e)
	}
}

func TestNoDisk(t *testing.T) { // R3, P4.4
	for _, d := range []*vblk.Disk{nil, {}, new(vblk.Disk)} {
		for range 2 {
			for _, b := range []uint32{0, 1, math.MaxUint32} { // ahead of ErrArg
				if id, e := d.Read(b); id != 0 || e != api.ErrNil {
					t.Errorf("Read(%d): %d %v", b, id, e)
				}
			}
			if l, e := d.Poll(); l != nil || e != api.ErrNil {
				t.Errorf("Poll: %v %v", l, e)
			}
			if d.Waits() != 0 || d.Failed() || d.Ring() != nil {
				t.Error("no disk has something")
			}
		}
	}
}
