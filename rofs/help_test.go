package rofs_test

import (
	"encoding/binary"
	"fmt"
	"math/rand"
	"reflect"
	"slices"
	"strings"
	"testing"

	"pharos/api"
	"pharos/rofs"
)

// file is a node that is one.
func file(path, data string) api.Node {
	return api.Node{Path: path, Data: data}
}

// dir is a node that is a directory.
func dir(path string) api.Node {
	return api.Node{Path: path, Dir: true}
}

// drawn are n bytes.
func drawn(r *rand.Rand, n int) string {
	b := make([]byte, n)
	r.Read(b)
	return string(b)
}

// some are nodes of all kinds: directories with and without files, below one another, more than a block of entries, names beside the slash, files of all sizes.
func some() []api.Node {
	l := []api.Node{
		dir("/a"),
		file("/a/!", full('x', 1023)),
		dir("/a/b"),
		dir("/a/b/c"),
		file("/a/b/c/d", "deep"),
		file("/a/~", full('y', 1024)),
		file("/a!", full('z', 1025)),
		dir("/a-"),
		file("/b", ""),
		dir("/d"),
	}
	for k := range 40 {
		l = append(l, file(fmt.Sprintf("/d/%032d", k), fmt.Sprint(k)))
	}
	return append(l, file("/z", full(0, 3000)))
}

// built demands that all is well.
func built(t testing.TB, l []api.Node) string {
	t.Helper()
	s, e := rofs.Build(l)
	if e != api.OK || len(s)%1024 != 0 {
		t.Fatalf("Build of %d nodes: %d bytes, %v", len(l), len(s), e)
	}
	return s
}

// refused demands that Build answers that error, and nothing.
func refused(t testing.TB, want api.Errno, what string, l []api.Node) {
	t.Helper()
	if s, e := rofs.Build(l); e != want || s != "" {
		t.Errorf("Build, %s: %d bytes, %v", what, len(s), e)
	}
}

// judged demands that Check and Nodes answer what the model does.
func judged(t testing.TB, what, image string) bool {
	t.Helper()
	want, is := modelNodes(image)
	code := api.ErrImage
	if is {
		code = api.OK
	}
	if e := rofs.Check(image); e != code {
		t.Fatalf("Check, %s: %v", what, e)
	}
	l, e := rofs.Nodes(image)
	if e != code || !slices.Equal(l, want) {
		t.Fatalf("Nodes, %s: %v %v, not %v", what, l, e, want)
	}
	return is
}

// right demands that an image is right.
func right(t testing.TB, what, image string) {
	t.Helper()
	if !judged(t, what, image) {
		t.Fatalf("%s: it must be right", what)
	}
}

// wrong demands that an image is not.
func wrong(t testing.TB, what, image string) {
	t.Helper()
	if judged(t, what, image) {
		t.Fatalf("%s: it must not be right", what)
	}
}

// inode is one as it is written, right or not.
type inode struct {
	kind, count uint16
	size        uint32
	extents     [6]api.Extent
	spare       [8]byte
}

// of is an inode with these extents.
func of(kind uint16, size int, l ...api.Extent) inode {
	i := inode{kind: kind, count: uint16(len(l)), size: uint32(size)}
	copy(i.extents[:], l)
	return i
}

func (i inode) bytes() string {
	b := binary.LittleEndian.AppendUint16(nil, i.kind)
	b = binary.LittleEndian.AppendUint16(b, i.count)
	s := string(b) + le(i.size)
	for _, x := range i.extents {
		s += le(x.Start, x.Len)
	}
	return s + string(i.spare[:])
}

// name is an entry's bytes.
func name(n uint32, s string) string {
	return le(n) + string([]byte{byte(len(s))}) + s
}

// made is an image by hand, sealed: that many blocks, where digests and inodes stand, and what stands in blocks.
func made(count int, sums, table uint32, l []inode, data map[int]string) string {
	b := make([]byte, count*1024)
	for n, s := range data {
		copy(b[n*1024:], s)
	}
	copy(b, "pharos1\x0a"+le(uint32(count), uint32(len(l)), sums, table))
	for k, i := range l {
		copy(b[int(table)*1024+64*k:], i.bytes())
	}
	seal(b)
	return string(b)
}

// two is an image by hand of a root and its file, as what is written says; blocks 4 to 7 may be the file's.
func two(root, f inode, entries string) string {
	return made(8, 1, 2, []inode{root, f}, map[int]string{3: entries})
}

// changed is an image with other bytes at a place, and right digests.
func changed(image string, place int, s string) string {
	b := []byte(image)
	copy(b[place:], s)
	seal(b)
	return string(b)
}

// turned is a text, of which that bit is another one.
func turned(s string, bit int) string {
	b := []byte(s)
	b[bit/8] ^= 1 << (bit % 8)
	return string(b)
}

// mounted is a mount of an image's block 0.
func mounted(t testing.TB, image string) *rofs.Mount {
	t.Helper()
	m, e := rofs.New(at(image, 0))
	if e != api.OK || m == nil {
		t.Fatalf("New: %v", e)
	}
	return m
}

// gives demands that the mount wants a block, and answers that.
func gives(t testing.TB, want api.Errno, m *rofs.Mount, n uint32, data string) {
	t.Helper()
	if !slices.Contains(m.Wants(), n) {
		t.Fatalf("it wants %v, not %d", m.Wants(), n)
	}
	if e := m.Give(n, data); e != want {
		t.Fatalf("Give(%d): %v, not %v", n, e, want)
	}
}

// fed gives a mount all that it wants of an image, till it wants nothing; the last error is the answer.
func fed(t testing.TB, m *rofs.Mount, image string) api.Errno {
	t.Helper()
	last := api.OK
	for l := m.Wants(); len(l) > 0; l = m.Wants() {
		if last != api.OK {
			t.Fatalf("%v, and it still wants %v", last, l)
		}
		last = m.Give(l[0], at(image, l[0]))
	}
	return last
}

// ready is a mount of an image that was read.
func ready(t testing.TB, image string) *rofs.Mount {
	t.Helper()
	m := mounted(t, image)
	if e := fed(t, m, image); e != api.OK || !m.Ready() {
		t.Fatalf("a mount: %v, ready %v", e, m.Ready())
	}
	return m
}

// spoilt demands that a mount is: it wants nothing, is not ready, and is given nothing more.
func spoilt(t testing.TB, what string, m *rofs.Mount) {
	t.Helper()
	if l := m.Wants(); len(l) != 0 || m.Ready() {
		t.Fatalf("%s: it wants %v, ready %v", what, l, m.Ready())
	}
	for n := range uint32(12) {
		for _, size := range []int{0, 1024} {
			if e := m.Give(n, full(0, size)); e != api.ErrState {
				t.Fatalf("%s: Give(%d) of a spoilt one: %v", what, n, e)
			}
		}
	}
	for _, path := range []string{"/", "/a", "a"} {
		if i, e := m.Lookup(path); e != api.ErrState || !reflect.DeepEqual(i, api.Inode{}) {
			t.Fatalf("%s: Lookup of a spoilt one: %v %v", what, i, e)
		}
	}
}

// found demands that a path is looked up.
func found(t testing.TB, m *rofs.Mount, path string) api.Inode {
	t.Helper()
	i, e := m.Lookup(path)
	if e != api.OK {
		t.Fatalf("Lookup(%s): %v", path, e)
	}
	return i
}

// content are a file's data, block by block.
func content(t testing.TB, image string, i api.Inode) string {
	t.Helper()
	var b strings.Builder
	for n := uint32(0); n*1024 < i.Size; n++ {
		block, e := rofs.Place(i, n)
		if e != api.OK {
			t.Fatalf("Place(%v, %d): %v", i, n, e)
		}
		b.WriteString(at(image, block)[:min(1024, i.Size-n*1024)])
	}
	return b.String()
}
