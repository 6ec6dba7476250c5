package rofs_test

import (
	"fmt"
	"math/rand"
	"slices"
	"testing"

	"pharos/api"
	"pharos/rofs"
)

// P15.1: the chapter's example: a byte of block 4 is another one.
func TestCheckExample(t *testing.T) {
	s := built(t, []api.Node{file("/a", "hi")})
	right(t, "the example", s)
	wrong(t, "a byte of block 4", turned(s, 8*4*1024))
	m := ready(t, s)
	if d, e := m.Sum(4); e != api.OK || d == sha(at(turned(s, 8*4*1024), 4)) || d != sha(at(s, 4)) {
		t.Errorf("Sum(4): %x %v", d, e)
	}
}

// P15.1: an image is whole, has as many blocks as it tells, and no more than MaxBlocks.
func TestCheckLength(t *testing.T) {
	s := built(t, some())
	for n := range len(s)/1024 + 1 {
		for _, k := range []int{-1, 0, 1, 512} {
			if n := 1024*n + k; n >= 0 && n < len(s) {
				wrong(t, fmt.Sprint("cut to ", n), s[:n])
			}
		}
	}
	wrong(t, "a byte behind", s+"\x00")
	wrong(t, "a block behind", s+full(0, 1024))
	wrong(t, "twice", s+s)
	wrong(t, "zeros", full(0, len(s)))
	b := []byte(s + full(0, 1024))
	copy(b[8:], le(uint32(len(b)/1024)))
	seal(b)
	right(t, "a block that nobody has", string(b))
	b[len(b)-1] = 7
	wrong(t, "a byte of it, and its digest is another one", string(b))
	seal(b)
	right(t, "a byte of it", string(b))
}

// P15.1: one block more than MaxBlocks is refused, though all stands as above.
func TestCheckMost(t *testing.T) {
	root := of(2, 0)
	for n, code := range map[int]api.Errno{65536: api.OK, 65537: api.ErrImage} {
		b := make([]byte, 1024*n)
		copy(b, "pharos1\n"+le(uint32(n), 1, 2, 1))
		copy(b[1024:], root.bytes())
		sums := blocks(32 * n)
		zero, own := sha(full(0, 1024)), make([]byte, 0, sums*1024)
		for k := range n {
			switch {
			case k == 0 || k >= 2 && k < 2+sums:
				own = append(own, make([]byte, 32)...)
			case k == 1:
				own = append(own, sha(string(b[1024:2048]))...)
			default:
				own = append(own, zero...)
			}
		}
		copy(b[2048:], own)
		copy(b[24:], sha(string(b[2048:2048+1024*sums])))
		copy(b[56:], sha(string(b[:56])))
		if e := rofs.Check(string(b)); e != code {
			t.Errorf("%d blocks: %v", n, e)
		}
	}
}

// P15.1: no byte of an image may be another one, unless the digests tell so: those of block 0, the digests, the inodes, directories, files, and bytes behind them.
func TestCheckBytes(t *testing.T) {
	s := built(t, []api.Node{dir("/a"), file("/a/b", full('x', 1025)), file("/c", "")})
	for k := range len(s) {
		if e := rofs.Check(turned(s, 8*k+k%8)); e != api.ErrImage {
			t.Fatalf("byte %d turned: %v", k, e)
		}
	}
}

// P15.1: with right digests, it is what a byte of the inodes, or of a directory, says that counts.
func TestCheckSealed(t *testing.T) {
	s := built(t, []api.Node{dir("/a"), file("/a/b", full('x', 1025)), file("/c", "")})
	n := 0
	for k := 2 * 1024; k < len(s); k++ {
		if k%1024 < 300 || k%1024 > 1000 {
			b := []byte(turned(s, 8*k+k%8))
			seal(b)
			if judged(t, fmt.Sprint("byte ", k, " turned"), string(b)) {
				n++
			}
		}
	}
	if n < 100 {
		t.Errorf("only %d of them are right", n)
	}
}

// P15.1: the digests: those of block 0 and of the digests' own blocks are bytes 0, and so is what stands behind them.
func TestCheckDigests(t *testing.T) {
	s := built(t, files(40))
	h, _ := modelHead(at(s, 0))
	if len(h.ofSums()) != 2 {
		t.Fatalf("%v", h)
	}
	for _, k := range []int{0, 31, 32, 63, 64, 95, 96, 127, 32 * int(h.blocks), 32*int(h.blocks) + 31, 2047} {
		b := []byte(s)
		b[1024+k] ^= 1
		copy(b[24:], sha(string(b[1024:3072])))
		copy(b[56:], sha(string(b[:56])))
		if _, is := modelHead(string(b[:1024])); !is {
			t.Fatal("block 0 must be right")
		}
		wrong(t, fmt.Sprint("byte ", k, " of the digests"), string(b))
	}
	b := []byte(s)
	b[24] ^= 1
	copy(b[56:], sha(string(b[:56])))
	wrong(t, "the digest of the digests", string(b))
}

// P15.1: digests and inodes may stand anywhere, and extents too, in any order.
func TestCheckPlaces(t *testing.T) {
	data := full('x', 1024) + full('y', 1024) + "z"
	s := made(12, 9, 7, []inode{
		of(2, 12, api.Extent{Start: 11, Len: 1}),
		of(1, 2049, api.Extent{Start: 5, Len: 1}, api.Extent{Start: 1, Len: 2}),
		of(1, 6144, api.Extent{Start: 10, Len: 1}, api.Extent{Start: 8, Len: 1}, api.Extent{Start: 6, Len: 1}, api.Extent{Start: 4, Len: 1}, api.Extent{Start: 3, Len: 1}, api.Extent{Start: 0, Len: 0}),
	}, nil)
	wrong(t, "five blocks for six, the last extent empty", s)
	s = made(13, 9, 7, []inode{
		of(2, 12, api.Extent{Start: 11, Len: 1}),
		of(1, 2049, api.Extent{Start: 5, Len: 1}, api.Extent{Start: 1, Len: 2}),
		of(1, 6144, api.Extent{Start: 10, Len: 1}, api.Extent{Start: 8, Len: 1}, api.Extent{Start: 6, Len: 1}, api.Extent{Start: 4, Len: 1}, api.Extent{Start: 3, Len: 1}, api.Extent{Start: 12, Len: 1}),
	}, map[int]string{
		11: name(2, "a") + name(1, "b"),
		5:  data[:1024], 1: data[1024:2048], 2: data[2048:],
		10: full('0', 1024), 8: full('1', 1024), 6: full('2', 1024), 4: full('3', 1024), 3: full('4', 1024), 12: full('5', 1024),
	})
	right(t, "in any order", s)
	six := ""
	for c := range 6 {
		six += full('0'+byte(c), 1024)
	}
	if l, e := rofs.Nodes(s); e != api.OK || !slices.Equal(l, []api.Node{file("/a", six), file("/b", data)}) {
		t.Errorf("Nodes: %v", e)
	}
	m := ready(t, s)
	if i := found(t, m, "/a"); content(t, s, i) != six || len(i.Extents) != 6 {
		t.Errorf("/a: %v", i)
	}
	if i := found(t, m, "/b"); content(t, s, i) != data {
		t.Errorf("/b: %v", i)
	}
}

// P15.1: what an inode may be.
func TestCheckInodes(t *testing.T) {
	x := func(start, n uint32) api.Extent { return api.Extent{Start: start, Len: n} }
	root, entries := of(2, 6, x(3, 1)), name(1, "a")
	spare := of(1, 0)
	spare.spare[7] = 1
	first := of(1, 0)
	first.spare[0] = 128
	behind := of(1, 1, x(4, 1))
	behind.extents[1] = x(0, 1)
	last := of(1, 1, x(4, 1))
	last.extents[5] = x(7, 0)
	seven := of(1, 4096, x(4, 1), x(5, 1), x(6, 1), x(7, 1))
	seven.count = 7
	six := of(1, 4096, x(4, 1), x(5, 1), x(6, 1), x(7, 1))
	six.count = 6
	fewer := of(1, 2048, x(4, 1), x(5, 1), x(6, 1))
	fewer.count = 2
	none := of(1, 1, x(4, 1))
	none.count = 0
	for _, c := range []struct {
		is   bool
		what string
		f    inode
	}{
		{true, "a file of no byte", of(1, 0)},
		{true, "one byte", of(1, 1, x(4, 1))},
		{true, "a block", of(1, 1024, x(7, 1))},
		{true, "four blocks", of(1, 4096, x(4, 4))},
		{true, "four blocks, backwards", of(1, 4096, x(7, 1), x(6, 1), x(5, 1), x(4, 1))},
		{true, "a directory of no byte", of(2, 0)},
		{false, "kind 0", of(0, 0)},
		{false, "kind 3", of(3, 0)},
		{false, "kind 256", of(256, 0)},
		{false, "kind 257", of(257, 0)},
		{false, "kind 65535", of(65535, 0)},
		{false, "no byte, and a block", of(1, 0, x(4, 1))},
		{false, "no byte, and an empty extent", of(1, 0, x(4, 0))},
		{false, "no byte, and an extent of nothing", of(1, 0, x(0, 0))},
		{false, "an empty extent ahead", of(1, 1, x(4, 0), x(5, 1))},
		{false, "an empty extent behind", of(1, 1, x(5, 1), x(4, 0))},
		{false, "one byte, and no block", of(1, 1)},
		{false, "one byte, and two blocks", of(1, 1, x(4, 2))},
		{false, "a block and a byte, and one block", of(1, 1025, x(4, 1))},
		{false, "a block, and two blocks", of(1, 1024, x(4, 1), x(5, 1))},
		{false, "four blocks, and three", of(1, 4096, x(4, 3))},
		{false, "a size far above", of(1, 1<<32-1, x(4, 4))},
		{false, "a size that goes round to no block", of(1, 1<<32-1)},
		{false, "out of the image", of(1, 1, x(8, 1))},
		{false, "its end out of the image", of(1, 2048, x(7, 2))},
		{false, "far out of the image", of(1, 1, x(1<<32-1, 1))},
		{false, "numbers that go round", of(1, 2048, x(1<<32-1, 2))},
		{false, "so long that it goes round", of(1, 1, x(5, 1<<32-1), x(4, 1), x(5, 1))},
		{false, "all blocks", of(1, 8192, x(0, 8))},
		{false, "block 0", of(1, 1, x(0, 1))},
		{false, "the digests", of(1, 1, x(1, 1))},
		{false, "the inodes", of(1, 1, x(2, 1))},
		{false, "another's", of(1, 1, x(3, 1))},
		{false, "all of block 0", of(1, 1024, x(0, 1))},
		{false, "all of the digests", of(1, 1024, x(1, 1))},
		{false, "all of the inodes", of(1, 1024, x(2, 1))},
		{false, "all of another's", of(1, 1024, x(3, 1))},
		{false, "another's, behind", of(1, 2048, x(4, 1), x(3, 1))},
		{false, "another's, at its end", of(1, 2048, x(2, 2))},
		{false, "its own twice", of(1, 2048, x(4, 1), x(4, 1))},
		{false, "its own, in one another", of(1, 4096, x(4, 3), x(5, 1))},
		{false, "its own, one over the other", of(1, 4096, x(4, 2), x(5, 2))},
		{false, "spare bytes", spare},
		{false, "spare bytes, the first", first},
		{false, "an extent that it has not", behind},
		{false, "an extent that it has not, the last", last},
		{false, "more extents than it has", six},
		{false, "seven extents", seven},
		{false, "fewer than stand there", fewer},
		{false, "none, though one stands there", none},
	} {
		s := two(root, c.f, entries)
		if is := judged(t, c.what, s); is != c.is {
			t.Errorf("%s: %v", c.what, is)
		}
	}
	more := of(1, 7168, x(4, 1), x(5, 1), x(6, 1), x(7, 1), x(8, 1), x(9, 1))
	more.count = 7
	copy(more.spare[:], le(10, 1))
	wrong(t, "a seventh extent in the spare bytes", made(12, 1, 2, []inode{root, more}, map[int]string{3: entries}))
	right(t, "seven blocks in six", made(12, 1, 2, []inode{root, of(1, 7168, x(4, 2), x(6, 1), x(7, 1), x(8, 1), x(9, 1), x(10, 1))}, map[int]string{3: entries}))
}

// P15.1: how many inodes there are, and what stands behind them.
func TestCheckTable(t *testing.T) {
	l := []inode{of(2, 6*15, api.Extent{Start: 4, Len: 1})}
	entries := ""
	for k := range 15 {
		l = append(l, of(1, 0))
		entries += name(uint32(k+1), string([]byte{'a' + byte(k)}))
	}
	s := made(5, 1, 2, l, map[int]string{4: entries})
	right(t, "16 inodes", s)
	wrong(t, "15 of them", changed(s, 12, le(15)))
	wrong(t, "17 of them", changed(s, 12, le(17)))
	s = made(5, 1, 2, append(l, of(1, 0)), map[int]string{4: entries + name(16, "q")})
	wrong(t, "17, the root's size is another one", s)
	s = changed(s, 2*1024+4, le(6*16))
	right(t, "17 inodes", s)
	for k := 64; k < 1024; k += 41 {
		wrong(t, "bytes behind the inodes", changed(s, 3*1024+k, "x"))
	}
	wrong(t, "no inode", changed(s, 12, le(0)))
}

// P15.1: bytes behind a size are 0.
func TestCheckBehind(t *testing.T) {
	x := api.Extent{Start: 4, Len: 2}
	for _, size := range []int{1025, 1026, 2047, 2048} {
		s := two(of(2, 6, api.Extent{Start: 3, Len: 1}), of(1, size, x), name(1, "a"))
		right(t, "zeros behind", s)
		for k := size; k < 2048; k += 97 {
			wrong(t, fmt.Sprint(size, k), changed(s, 4*1024+k, "x"))
		}
		if size < 2048 {
			wrong(t, "the last one", changed(s, 6*1024-1, "x"))
		}
		right(t, "the last byte of its data", changed(s, 4*1024+size-1, "x"))
		for k := 6; k < 1024; k += 97 {
			wrong(t, "behind a directory's", changed(s, 3*1024+k, "x"))
		}
	}
}

// P15.1: what a directory's data may be.
func TestCheckEntries(t *testing.T) {
	twice := func(a, b string) string { return name(1, a) + name(2, b) }
	for _, c := range []struct {
		is      bool
		what    string
		entries string
	}{
		{true, "two", twice("a", "b")},
		{true, "two, the other way", name(2, "a") + name(1, "b")},
		{true, "a name that another one begins with", twice("a", "a!")},
		{true, "32 bytes", twice(full('a', 31), full('a', 32))},
		{true, "capitals ahead", twice("B", "a")},
		{true, "33 and 126", twice("!", "~")},
		{false, "falling", twice("b", "a")},
		{false, "the same", twice("a", "a")},
		{false, "its beginning behind it", twice("aa", "a")},
		{false, "no name", twice("", "a")},
		{false, "33 bytes", twice("a", full('b', 33))},
		{false, "a point", twice(".", "a")},
		{false, "two points", twice("..", "a")},
		{false, "a slash", twice("/", "a")},
		{false, "a slash in it", twice("a/b", "b")},
		{false, "a blank", twice(" ", "a")},
		{false, "127", twice("a", "\x7f")},
		{false, "128", twice("a", "\x80")},
		{false, "an inode that there is not", name(1, "a") + name(3, "b")},
		{false, "an inode far above", name(1, "a") + name(1<<32-1, "b")},
		{false, "an inode that goes round", name(1, "a") + name(1<<16+2, "b")},
		{false, "inode 0", name(1, "a") + name(0, "b")},
		{false, "inode 0 too", name(0, "0") + twice("a", "b")},
		{false, "one inode twice", name(1, "a") + name(1, "b")},
		{false, "one inode twice, all are there", twice("a", "b") + name(2, "c")},
		{false, "not reached", name(1, "a")},
		{false, "nothing", ""},
		{false, "an entry that is cut", twice("a", "b")[:11]},
		{false, "an entry without a name's length", twice("a", "b")[:10]},
		{false, "an entry of one byte", twice("a", "b")[:7]},
		{false, "a byte behind", twice("a", "b") + "\x00"},
		{false, "five bytes 0 behind", twice("a", "b") + full(0, 5)},
	} {
		root := of(2, len(c.entries))
		if c.entries != "" {
			root = of(2, len(c.entries), api.Extent{Start: 3, Len: 1})
		}
		s := made(5, 1, 2, []inode{root, of(1, 0), of(2, 0)}, map[int]string{3: c.entries})
		if is := judged(t, c.what, s); is != c.is {
			t.Errorf("%s: %v", c.what, is)
		}
	}
}

// P15.1: inode 0 is a directory; all are reached from it, once, and not in a circle.
func TestCheckReach(t *testing.T) {
	at := func(n uint32) api.Extent { return api.Extent{Start: n, Len: 1} }
	wrong(t, "the root is a file", made(3, 1, 2, []inode{of(1, 0)}, nil))
	right(t, "the root alone", made(3, 1, 2, []inode{of(2, 0)}, nil))
	wrong(t, "the root has itself", made(4, 1, 2, []inode{of(2, 6, at(3))}, map[int]string{3: name(0, "a")}))
	wrong(t, "one has itself", made(6, 1, 2, []inode{of(2, 0), of(2, 6, at(3))}, map[int]string{3: name(1, "a")}))
	wrong(t, "one has the root", made(6, 1, 2, []inode{of(2, 6, at(3)), of(2, 6, at(4))}, map[int]string{3: name(1, "a"), 4: name(0, "a")}))
	wrong(t, "two have one another", made(6, 1, 2, []inode{of(2, 0), of(2, 6, at(3)), of(2, 6, at(4))}, map[int]string{3: name(2, "a"), 4: name(1, "a")}))
	wrong(t, "a circle below the root", made(8, 1, 2, []inode{of(2, 6, at(3)), of(2, 6, at(4)), of(2, 6, at(5))}, map[int]string{3: name(1, "a"), 4: name(2, "a"), 5: name(1, "a")}))
	wrong(t, "two ways to one", made(8, 1, 2, []inode{of(2, 12, at(3)), of(2, 6, at(4)), of(1, 0)}, map[int]string{3: name(1, "a") + name(2, "b"), 4: name(2, "a")}))
	right(t, "a way each", made(8, 1, 2, []inode{of(2, 6, at(3)), of(2, 6, at(4)), of(1, 0)}, map[int]string{3: name(1, "a"), 4: name(2, "a")}))
	right(t, "inodes the other way", made(8, 1, 2, []inode{of(2, 6, at(3)), of(1, 0), of(2, 6, at(4))}, map[int]string{3: name(2, "a"), 4: name(1, "a")}))
	wrong(t, "a file that is read as a directory", made(8, 1, 2, []inode{of(2, 6, at(3)), of(1, 6, at(4)), of(1, 0)}, map[int]string{3: name(1, "a"), 4: name(2, "a")}))
	wrong(t, "a directory that is not reached, of no entries", made(8, 1, 2, []inode{of(2, 0), of(2, 6, at(4))}, map[int]string{4: "nonsense"}))
}

// P15.1: each is reached by at most MaxDepth names.
func TestCheckDepth(t *testing.T) {
	for depth, want := range map[int]bool{1: true, 15: true, 16: true, 17: false, 18: false, 100: false} {
		var l []inode
		table := blocks(64 * (depth + 1))
		data := map[int]string{}
		for k := range depth {
			place := 10 + table + k
			l = append(l, of(2, 6, api.Extent{Start: uint32(place), Len: 1}))
			data[place] = name(uint32(k+1), "a")
		}
		s := made(200, 1, 8, append(l, of(2, 0)), data)
		if is := judged(t, fmt.Sprint("directories ", depth), s); is != want {
			t.Errorf("%d directories: %v", depth, is)
		}
		s = made(200, 1, 8, append(l, of(1, 0)), data)
		if is := judged(t, fmt.Sprint("a file at ", depth), s); is != want {
			t.Errorf("a file at %d names: %v", depth, is)
		}
	}
}

// P15.1: nodes are told in order, a directory ahead of all that it has, whatever its inode's number is.
func TestNodesOrder(t *testing.T) {
	at := func(n uint32) api.Extent { return api.Extent{Start: n, Len: 1} }
	s := made(9, 1, 2, []inode{of(2, 19, at(3)), of(1, 1, at(4)), of(2, 12, at(5)), of(1, 2, at(6)), of(1, 3, at(7)), of(1, 0)}, map[int]string{
		3: name(2, "a") + name(1, "a!") + name(5, "b"),
		4: "1", 5: name(4, "x") + name(3, "y"), 6: "22", 7: "333",
	})
	right(t, "in order", s)
	want := []api.Node{dir("/a"), file("/a/x", "333"), file("/a/y", "22"), file("/a!", "1"), file("/b", "")}
	if l, e := rofs.Nodes(s); e != api.OK || !slices.Equal(l, want) {
		t.Errorf("Nodes: %v %v", l, e)
	}
}

// P15.1: entries may stand over the ends of blocks, and of extents.
func TestCheckLongDirectory(t *testing.T) {
	l := make([]inode, 201)
	for k := range l {
		l[k] = of(1, 0)
	}
	sorted := drawnEntries(200)
	l[0] = of(2, len(sorted), api.Extent{Start: 30, Len: 2}, api.Extent{Start: 25, Len: 1}, api.Extent{Start: 20, Len: uint32(blocks(len(sorted)) - 3)})
	data := map[int]string{30: sorted[:2048], 25: sorted[2048:3072], 20: sorted[3072:]}
	s := made(40, 1, 4, l, data)
	right(t, "a long directory", s)
	wrong(t, "extents in another order", made(40, 1, 4, l, map[int]string{30: sorted[1024:3072], 25: sorted[:1024], 20: sorted[3072:]}))
	m := ready(t, s)
	nodes, _ := rofs.Nodes(s)
	for _, n := range nodes {
		found(t, m, n.Path)
	}
	if len(nodes) != 200 {
		t.Errorf("%d nodes", len(nodes))
	}
}

// drawnEntries are n of them, of names of all lengths, that rise.
func drawnEntries(n int) string {
	s := ""
	for k := range n {
		s += name(uint32(n-k), fmt.Sprintf("%04d", k)+full('x', k%29))
	}
	return s
}

// P15.1: against the model, images of which a few bytes are others, most with right digests.
func TestCheckModel(t *testing.T) {
	r := rand.New(rand.NewSource(1503))
	rights := 0
	for range 4000 {
		s := drawnImage(r)
		if judged(t, "a drawn image", s) {
			rights++
		}
	}
	if rights < 200 || rights > 3800 {
		t.Errorf("%d of 4000 are right", rights)
	}
}

// drawnImage is one of which something is most often wrong.
func drawnImage(r *rand.Rand) string {
	s, _ := modelBuild(drawnTree(r, r.Intn(20)))
	b := []byte(s)
	h, _ := modelHead(s[:1024])
	for range r.Intn(4) {
		i := int(h.table)*1024 + 64*r.Intn(int(h.inodes))
		switch r.Intn(9) {
		case 0: // a byte of an inode
			b[i+r.Intn(64)] ^= 1 << r.Intn(8)
		case 1: // an extent
			copy(b[i+8+8*r.Intn(6):], le(uint32(r.Intn(len(b)/1024+1)), uint32(r.Intn(3))))
		case 2: // how many
			b[i+2] = byte(r.Intn(8))
		case 3: // its size
			copy(b[i+4:], le(uint32(max(0, int(u32(s, i+4))+r.Intn(3)-1))))
		case 4: // its kind
			b[i] = byte(1 + r.Intn(2))
		case 5: // an entry's inode
			if root := u32(s, int(h.table)*1024+8); root > 0 {
				b[root*1024] = byte(r.Intn(int(h.inodes) + 1))
			}
		case 6: // any byte
			b[r.Intn(len(b))] ^= 1 << r.Intn(8)
		case 7: // a byte of data
			at := (int(h.table) + len(h.ofTable())) * 1024
			if at < len(b) {
				b[at+r.Intn(len(b)-at)] ^= 1 << r.Intn(8)
			}
		default: // the numbers of block 0
			b[8+r.Intn(16)] ^= 1 << r.Intn(3) >> r.Intn(3)
		}
	}
	if r.Intn(10) > 0 {
		seal(b)
	}
	return string(b)
}
