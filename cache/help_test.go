package cache_test

import (
	"crypto/sha256"
	"encoding/binary"
	"slices"
	"strings"
	"testing"

	"pharos/api"
	"pharos/cache"
	"pharos/mem"
	"pharos/rofs"
	"pharos/vblk"
)

// count is how many blocks the image has that most tests read: 0, one of digests (1), one of inodes, the root's, and a file's.
const count = 14

// built is an image of one file.
func built(t testing.TB, data string) string {
	t.Helper()
	s, e := rofs.Build([]api.Node{{Path: "/a", Data: data}})
	if e != api.OK {
		t.Fatalf("Build: %v", e)
	}
	return s
}

// picture is an image of so many blocks, no two of them the same.
func picture(t testing.TB, blocks int) string {
	t.Helper()
	others := 3 + (blocks*api.Key+api.BlockSize-1)/api.BlockSize
	var b strings.Builder
	for k := range (blocks - others) * api.BlockSize {
		b.WriteByte(byte(k/api.BlockSize + k%251))
	}
	s := built(t, b.String())
	if len(s) != blocks*api.BlockSize {
		t.Fatalf("an image of %d bytes, not of %d blocks", len(s), blocks)
	}
	return s
}

// at is a block of an image.
func at(image string, n uint32) string {
	return image[int(n)*api.BlockSize:][:api.BlockSize]
}

// young is a mount of an image that was given block 0 alone.
func young(t testing.TB, image string) *rofs.Mount {
	t.Helper()
	m, e := rofs.New(at(image, 0))
	if e != api.OK {
		t.Fatalf("rofs.New: %v", e)
	}
	return m
}

// ready is a mount of an image that was read.
func ready(t testing.TB, image string) *rofs.Mount {
	t.Helper()
	m := young(t, image)
	for l := m.Wants(); len(l) > 0; l = m.Wants() {
		if e := m.Give(l[0], at(image, l[0])); e != api.OK {
			t.Fatalf("Give(%d): %v", l[0], e)
		}
	}
	return m
}

func conf(ring, slots int, blocks uint32) api.BlkConf {
	return api.BlkConf{Ring: ring, Slots: slots, Blocks: blocks}
}

// drive is a disk, and the device behind it, which reads of memory what it is asked for.
type drive struct {
	*vblk.Disk
	t    testing.TB
	m    *mem.Mem
	c    api.BlkConf
	seen int   // how many chains it has looked at
	used int   // how many it has used
	asks []ask // those that it has not, in the order in which they came
}

// ask is what a device is asked for.
type ask struct {
	head  uint16
	block uint32
}

func newDrive(t testing.TB, c api.BlkConf) *drive {
	t.Helper()
	m, e := mem.New(vblk.Size(c))
	if e != api.OK {
		t.Fatalf("mem.New: %v", e)
	}
	d, e := vblk.New(m, 0, c)
	if e != api.OK {
		t.Fatalf("vblk.New: %v", e)
	}
	return &drive{Disk: d, t: t, m: m, c: c}
}

func (k *drive) look(at uint32, n int) []byte {
	k.t.Helper()
	s, e := k.m.Read(at, n)
	if e != api.OK {
		k.t.Fatalf("Read(%d, %d): %v", at, n, e)
	}
	return []byte(s)
}

func (k *drive) write(at uint32, s string) {
	k.t.Helper()
	if e := k.m.Device(at, s); e != api.OK {
		k.t.Fatalf("Device(%d, %.20q): %v", at, s, e)
	}
}

func (k *drive) chain(head uint16) []api.Buf {
	k.t.Helper()
	l, e := k.Ring().Chain(head)
	if e != api.OK || len(l) != 3 {
		k.t.Fatalf("Chain(%d): %v %v", head, l, e)
	}
	return l
}

// asked is the blocks that the device is asked for and has not brought, in the order in which they were.
func (k *drive) asked() []uint32 {
	k.t.Helper()
	index := binary.LittleEndian.Uint16(k.look(k.Ring().Avail()+2, 2))
	for ; uint16(k.seen) != index; k.seen++ {
		head := binary.LittleEndian.Uint16(k.look(k.Ring().Avail()+4+2*uint32(k.seen%k.c.Ring), 2))
		sector := binary.LittleEndian.Uint64(k.look(k.chain(head)[0].At+8, 8))
		k.asks = append(k.asks, ask{head, uint32(sector / 2)})
	}
	var l []uint32
	for _, a := range k.asks {
		l = append(l, a.block)
	}
	return l
}

// answer uses the n-th chain of those that it was asked by, in that order: it writes data and a status, and says that it wrote so many bytes.
func (k *drive) answer(n int, data, status string, size uint32) {
	k.t.Helper()
	k.asked()
	a := k.asks[n]
	k.asks = slices.Delete(k.asks, n, n+1)
	l := k.chain(a.head)
	k.write(l[1].At, data)
	k.write(l[2].At, status)
	entry := binary.LittleEndian.AppendUint32(nil, uint32(a.head))
	entry = binary.LittleEndian.AppendUint32(entry, size)
	k.write(k.Ring().Used()+4+8*uint32(k.used%k.c.Ring), string(entry))
	k.used++
	k.write(k.Ring().Used()+2, string(binary.LittleEndian.AppendUint16(nil, uint16(k.used))))
}

// brings answers the oldest ask for a block by these bytes.
func (k *drive) brings(block uint32, data string) {
	k.t.Helper()
	n := slices.Index(k.asked(), block)
	if n < 0 {
		k.t.Fatalf("it is asked for %v, not for %d", k.asked(), block)
	}
	k.answer(n, data, "\x00", 1025)
}

// fails answers the oldest ask for a block by a status that is an error.
func (k *drive) fails(block uint32) {
	k.t.Helper()
	k.answer(slices.Index(k.asked(), block), "", "\x01", 1025)
}

// rig is a cache, and all that it stands on.
type rig struct {
	*cache.Cache
	*drive
	t     testing.TB
	image string
	mount *rofs.Mount
	most  int
}

// of is a cache on an image, a mount of it, and a disk.
func of(t testing.TB, image string, m *rofs.Mount, c api.BlkConf, most int) *rig {
	t.Helper()
	d := newDrive(t, c)
	x, e := cache.New(d.Disk, m, most)
	if x == nil || e != api.OK {
		t.Fatalf("New(%d): %v", most, e)
	}
	return &rig{x, d, t, image, m, most}
}

// rigged is a cache of at most so many blocks, on the image of most tests and a disk that takes four requests.
func rigged(t testing.TB, most int) *rig {
	t.Helper()
	image := picture(t, count)
	return of(t, image, ready(t, image), conf(16, 4, count), most)
}

// Poll, Waits: those of the cache, as the disk has such calls, too.
func (r *rig) Poll() ([]api.Came, api.Errno) { return r.Cache.Poll() }

func (r *rig) Waits() []uint32 { return r.Cache.Waits() }

// gets demands that a block is there.
func (r *rig) gets(block uint32) {
	r.t.Helper()
	s, e := r.Get(block)
	if e != api.OK || s != at(r.image, block) {
		r.t.Fatalf("Get(%d): %.20q %v, want its bytes", block, s, e)
	}
}

// refuses demands that Get answers that error, of each of these blocks.
func (r *rig) refuses(want api.Errno, blocks ...uint32) {
	r.t.Helper()
	for _, b := range blocks {
		if s, e := r.Get(b); s != "" || e != want {
			r.t.Fatalf("Get(%d): %.20q %v, want %v", b, s, e, want)
		}
	}
}

// polls demands that Poll tells just this.
func (r *rig) polls(want api.Errno, came ...api.Came) {
	r.t.Helper()
	if l, e := r.Poll(); !slices.Equal(l, came) || e != want {
		r.t.Fatalf("Poll: %v %v, want %v %v", l, e, came, want)
	}
}

// has demands that the cache has just these, in that order.
func (r *rig) has(want ...uint32) {
	r.t.Helper()
	if l := r.Has(); !slices.Equal(l, want) {
		r.t.Fatalf("Has: %v, want %v", l, want)
	}
}

// awaits demands that the cache waits for just these.
func (r *rig) awaits(want ...uint32) {
	r.t.Helper()
	if l := r.Waits(); !slices.Equal(l, want) {
		r.t.Fatalf("Waits: %v, want %v", l, want)
	}
}

// was demands that the device is asked for just these.
func (r *rig) was(want ...uint32) {
	r.t.Helper()
	if l := r.asked(); !slices.Equal(l, want) {
		r.t.Fatalf("the device is asked for %v, want %v", l, want)
	}
}

// fill lets the cache ask for blocks, one behind the other, each of which comes.
func (r *rig) fill(blocks ...uint32) {
	r.t.Helper()
	for _, b := range blocks {
		r.refuses(api.ErrWait, b)
		r.brings(b, at(r.image, b))
		r.polls(api.OK, ok(b))
	}
}

func ok(block uint32) api.Came { return api.Came{Block: block} }

func not(block uint32, e api.Errno) api.Came { return api.Came{Block: block, Err: e} }

// sha is a digest, as the library has it.
func sha(s string) string {
	d := sha256.Sum256([]byte(s))
	return string(d[:])
}

// turned is a text with one bit turned.
func turned(s string, bit int) string {
	b := []byte(s)
	b[bit/8] ^= 1 << (bit % 8)
	return string(b)
}
