package rofs_test

import (
	"fmt"
	"math/rand"
	"reflect"
	"slices"
	"testing"

	"pharos/api"
	"pharos/rofs"
)

// extent is one.
func extent(start, n uint32) api.Extent { return api.Extent{Start: start, Len: n} }

// numbers are from, and those behind it.
func numbers(from, n uint32) []uint32 {
	l := []uint32{}
	for k := range n {
		l = append(l, from+k)
	}
	return l
}

// wants demands that a mount wants just these, and is ready or not.
func wants(t testing.TB, what string, m *rofs.Mount, is bool, l ...uint32) {
	t.Helper()
	if got := m.Wants(); len(got) != len(l) || len(l) > 0 && !slices.Equal(got, l) || m.Ready() != is {
		t.Fatalf("%s: it wants %v, not %v; ready %v", what, got, l, m.Ready())
	}
}

// P15.4: a mount wants the digests, then the inodes, then all blocks of directories, and is ready then.
func TestMountSteps(t *testing.T) {
	s := built(t, some())
	u, _ := rofs.Super(at(s, 0))
	m := mounted(t, s)
	h, _ := modelHead(at(s, 0))
	sums, table := uint32(len(h.ofSums())), uint32(len(h.ofTable()))
	for k := range sums {
		wants(t, "the digests", m, false, numbers(1+k, sums-k)...)
		gives(t, api.OK, m, 1+k, at(s, 1+k))
	}
	for k := range table {
		wants(t, "the inodes", m, false, numbers(u.Table+k, table-k)...)
		gives(t, api.OK, m, u.Table+k, at(s, u.Table+k))
	}
	var dirs []uint32
	for k := range u.Inodes {
		i, l, _ := modelInode(s[1024*u.Table+64*k:][:64], u.Blocks)
		for _, n := range l {
			if i.Kind == 2 {
				dirs = append(dirs, uint32(n))
			}
		}
	}
	if len(dirs) < 4 {
		t.Fatalf("directories in %v", dirs)
	}
	for k, n := range dirs {
		wants(t, "the directories", m, false, dirs[k:]...)
		gives(t, api.OK, m, n, at(s, n))
	}
	wants(t, "ready", m, true)
	for n := range u.Blocks + 2 {
		if e := m.Give(n, full(0, 1024)); e != api.ErrArg {
			t.Errorf("Give(%d) to one that is ready: %v", n, e)
		}
	}
	if i := found(t, m, "/a/b/c/d"); content(t, s, i) != "deep" {
		t.Errorf("/a/b/c/d: %v", i)
	}
}

// P15.4: where no directory has a block, the mount is ready by the last block of the inodes.
func TestMountAtOnce(t *testing.T) {
	s := built(t, nil)
	m := mounted(t, s)
	wants(t, "the digests", m, false, 1)
	gives(t, api.OK, m, 1, at(s, 1))
	wants(t, "the inodes", m, false, 2)
	gives(t, api.OK, m, 2, at(s, 2))
	wants(t, "ready at once", m, true)
	if i := found(t, m, "/"); !reflect.DeepEqual(i, api.Inode{Kind: 2}) {
		t.Errorf("the root: %v", i)
	}
}

// P15.4: blocks may come in any order; each is wanted once.
func TestMountOrder(t *testing.T) {
	r := rand.New(rand.NewSource(1504))
	for _, l := range [][]api.Node{some(), files(900), nil} {
		s := built(t, l)
		for range 20 {
			m := mounted(t, s)
			for !m.Ready() {
				w := m.Wants()
				n := w[r.Intn(len(w))]
				gives(t, api.OK, m, n, at(s, n))
				if slices.Contains(m.Wants(), n) {
					t.Fatalf("%d is still wanted", n)
				}
				if e := m.Give(n, at(s, n)); e != api.ErrArg {
					t.Fatalf("%d given twice: %v", n, e)
				}
			}
			for _, n := range l {
				if i := found(t, m, n.Path); !n.Dir && content(t, s, i) != n.Data {
					t.Fatalf("%s: another file", n.Path)
				}
			}
		}
	}
}

// P15.4: ErrArg, unless the block is wanted, and has BlockSize bytes; nothing changes by it.
func TestMountArg(t *testing.T) {
	s := built(t, some())
	m := mounted(t, s)
	for !m.Ready() {
		w := m.Wants()
		for n := range uint32(len(s)/1024) + 3 {
			if !slices.Contains(w, n) {
				for _, data := range []string{full(0, 1024), at(s, w[0]), ""} {
					if e := m.Give(n, data); e != api.ErrArg {
						t.Fatalf("Give(%d), wanted %v: %v", n, w, e)
					}
				}
			}
		}
		for _, n := range []uint32{1 << 16, 1<<16 + w[0], 1 << 31, 1<<32 - 1} {
			if e := m.Give(n, at(s, w[0])); e != api.ErrArg {
				t.Fatalf("Give(%d): %v", n, e)
			}
		}
		for _, data := range []string{"", "x", at(s, w[0])[:1023], at(s, w[0]) + "\x00", at(s, w[0]) + at(s, w[0])} {
			if e := m.Give(w[0], data); e != api.ErrArg {
				t.Fatalf("Give of %d bytes: %v", len(data), e)
			}
		}
		wants(t, "what it wanted", m, false, w...)
		gives(t, api.OK, m, w[0], at(s, w[0]))
	}
}

// P15.4, P15.6: a bit that is turned in a block whose digest is known is ErrSum; the block is still wanted, and may come then.
func TestMountSum(t *testing.T) {
	s := built(t, some())
	m := mounted(t, s)
	for _, n := range m.Wants() {
		gives(t, api.OK, m, n, at(s, n))
	}
	for !m.Ready() {
		w := m.Wants()
		for bit := range 8 * 1024 {
			if e := m.Give(w[0], turned(at(s, w[0]), bit)); e != api.ErrSum {
				t.Fatalf("block %d, bit %d: %v", w[0], bit, e)
			}
		}
		for _, n := range w[1:] {
			if e := m.Give(w[0], at(s, n)); e != api.ErrSum {
				t.Fatalf("block %d for %d: %v", n, w[0], e)
			}
		}
		wants(t, "what it wanted", m, false, w...)
		gives(t, api.OK, m, w[0], at(s, w[0]))
	}
	for _, n := range some() {
		found(t, m, n.Path)
	}
}

// P15.4, P15.6: a bit that is turned in the digests is found out once all are given: the mount is spoilt.
func TestMountSpoiltDigests(t *testing.T) {
	s := built(t, files(40))
	sums := mounted(t, s).Wants()
	if len(sums) < 2 {
		t.Fatalf("digests in %v", sums)
	}
	for bit := 0; bit < 8*1024*len(sums); bit += 7 {
		m := mounted(t, s)
		b := turned(s, 8*1024+bit)
		for k := len(sums) - 1; k > 0; k-- {
			gives(t, api.OK, m, sums[k], at(b, sums[k]))
		}
		gives(t, api.ErrSum, m, sums[0], at(b, sums[0]))
		spoilt(t, fmt.Sprint("digests, bit ", bit), m)
		if d, e := m.Sum(5); e != api.ErrState || d != "" {
			t.Fatalf("Sum of a spoilt one: %x %v", d, e)
		}
	}
	m := mounted(t, s)
	gives(t, api.OK, m, sums[0], at(s, sums[1]))
	for _, n := range sums[1 : len(sums)-1] {
		gives(t, api.OK, m, n, at(s, n))
	}
	gives(t, api.ErrSum, m, sums[len(sums)-1], at(s, sums[0]))
	spoilt(t, "digests that changed places", m)
}

// P15.4: inodes that are not as they must be spoil a mount; its digests are known all the same.
func TestMountSpoiltInodes(t *testing.T) {
	root, entries := of(2, 6, extent(3, 1)), name(1, "a")
	spare := of(1, 0)
	spare.spare[3] = 1
	behind := of(1, 0)
	behind.extents[0] = extent(4, 1)
	seven := of(1, 0)
	seven.count = 7
	for what, l := range map[string][2]inode{
		"kind 0":                   {root, of(0, 0)},
		"kind 3":                   {root, of(3, 0)},
		"kind 513":                 {root, of(513, 0)},
		"the root's kind":          {of(0, 6, extent(3, 1)), of(1, 0)},
		"the root is a file":       {of(1, 6, extent(3, 1)), of(1, 0)},
		"the root is an empty one": {of(1, 0), of(2, 0)},
		"seven extents":            {root, seven},
		"an empty extent":          {root, of(1, 0, extent(4, 0))},
		"out of the image":         {root, of(1, 1, extent(8, 1))},
		"its end is":               {root, of(1, 2048, extent(7, 2))},
		"numbers that go round":    {root, of(1, 2048, extent(1<<32-1, 2))},
		"too few blocks":           {root, of(1, 1025, extent(4, 1))},
		"too many blocks":          {root, of(1, 1024, extent(4, 2))},
		"none":                     {root, of(1, 1)},
		"a size that goes round":   {root, of(1, 1<<32-1)},
		"spare bytes":              {root, spare},
		"an extent it has not":     {root, behind},
		"the root has too few":     {of(2, 1025, extent(3, 1)), of(1, 0)},
	} {
		s := two(l[0], l[1], entries)
		wrong(t, what, s)
		m := mounted(t, s)
		gives(t, api.OK, m, 1, at(s, 1))
		gives(t, api.ErrImage, m, 2, at(s, 2))
		spoilt(t, what, m)
		if d, e := m.Sum(3); e != api.OK || d != sha(at(s, 3)) {
			t.Errorf("%s: Sum(3): %x %v", what, d, e)
		}
	}
}

// P15.4: directories whose data are no entries spoil a mount, whichever they are.
func TestMountSpoiltDirectories(t *testing.T) {
	for what, entries := range map[string]string{
		"falling":                    name(1, "b") + name(2, "a"),
		"the same":                   name(1, "a") + name(2, "a"),
		"no name":                    name(1, ""),
		"33 bytes":                   name(1, full('a', 33)),
		"255 bytes":                  name(1, full('a', 255)),
		"a point":                    name(1, "."),
		"two points":                 name(1, ".."),
		"a slash":                    name(1, "a/b"),
		"a blank":                    name(1, "a b"),
		"127":                        name(1, "\x7f"),
		"an inode that there is not": name(4, "a"),
		"an inode far above":         name(1<<32-1, "a"),
		"cut":                        name(1, "abc")[:7],
		"cut at its length":          name(1, "abc")[:5],
		"cut in its number":          name(1, "abc")[:3],
		"a byte behind":              name(1, "a") + "\x01",
		"the second block is cut":    name(1, "a") + drawnNames(2, 30)[:1030],
		"falling in the fourth":      drawnNames(2, 100) + name(1, "a"),
	} {
		n := uint32(blocks(len(entries)))
		for _, l := range [][]inode{
			{of(2, len(entries), extent(4, n)), of(1, 0), of(2, 0), of(1, 0)},
			{of(2, 6, extent(3, 1)), of(1, 0), of(2, len(entries), extent(4, n)), of(1, 0)},
		} {
			s := made(8, 1, 2, l, map[int]string{3: name(2, "d"), 4: entries})
			wrong(t, what, s)
			m := mounted(t, s)
			if e := fed(t, m, s); e != api.ErrImage {
				t.Errorf("%s: %v", what, e)
			}
			spoilt(t, what, m)
			if d, e := m.Sum(3); e != api.OK || d != sha(at(s, 3)) {
				t.Errorf("%s: Sum(3): %x %v", what, d, e)
			}
		}
	}
}

// drawnNames are entries of one inode, n of them, with long names that rise.
func drawnNames(inode uint32, n int) string {
	s := ""
	for k := range n {
		s += name(inode, fmt.Sprintf("b%031d", k))
	}
	return s
}

// P15.4: what is wrong of an image, and a mount does not look at: bytes behind a size, and behind inodes, blocks in two things, inodes that are not reached, reached twice, or in a circle.
func TestMountLenient(t *testing.T) {
	at := func(n uint32) api.Extent { return extent(n, 1) }
	l := []inode{of(2, 6, at(3)), of(2, 6, at(4)), of(1, 5, at(5))}
	data := map[int]string{3: name(1, "a"), 4: name(2, "b"), 5: "12345"}
	s := made(8, 1, 2, l, data)
	right(t, "as it must be", s)
	for what, s := range map[string]string{
		"as it must be":                s,
		"behind a directory's data":    changed(s, 3*1024+6, "x"),
		"behind a file's data":         changed(s, 5*1024+5, "x"),
		"behind the inodes":            changed(s, 2*1024+64*3, "x"),
		"a directory that has itself":  changed(s, 4*1024, le(1)),
		"a directory that has 0":       changed(s, 4*1024, le(0)),
		"a file in the digests":        changed(s, 2*1024+64*2+8, le(1)),
		"a file in a directory":        changed(s, 2*1024+64*2+8, le(3)),
		"a file in block 0":            changed(s, 2*1024+64*2+8, le(0)),
		"two directories in one block": changed(s, 2*1024+64+8, le(3)),
		"the root has nothing":         changed(s, 2*1024+2, full(0, 14)),
	} {
		if judged(t, what, s) != (what == "as it must be") {
			t.Errorf("%s: Check", what)
		}
		m := ready(t, s)
		model, _ := newModelMount(s[:1024])
		for len(model.wants) > 0 {
			model.give(model.wants[0], s[1024*model.wants[0]:][:1024])
		}
		for _, path := range []string{"/", "/a", "/a/b", "/a/a", "/a/b/b", "/a/a/a/a/b", "/b"} {
			want, code := model.lookup(path)
			if i, e := m.Lookup(path); e != code || !reflect.DeepEqual(i, want) {
				t.Errorf("%s: Lookup(%s): %v %v, not %v %v", what, path, i, e, want, code)
			}
		}
	}
}

// P15.4: blocks of several directories are wanted rising, each once, whatever the order of the extents.
func TestMountRising(t *testing.T) {
	entries := drawnNames(1, 100)
	s := made(20, 9, 8, []inode{
		of(2, 2048, extent(15, 1), extent(12, 1)),
		of(2, 37*27, extent(7, 1)),
		of(2, 37*27, extent(7, 1)),
		of(2, 2048, extent(12, 1), extent(3, 1)),
		of(1, 1, extent(5, 1)),
		of(2, 1024*4, extent(2, 3), extent(15, 1)),
	}, map[int]string{7: entries})
	m := mounted(t, s)
	gives(t, api.OK, m, 9, at(s, 9))
	wants(t, "the inodes", m, false, 8)
	gives(t, api.OK, m, 8, at(s, 8))
	wants(t, "the directories", m, false, 2, 3, 4, 7, 12, 15)
	for _, n := range []uint32{7, 2, 15, 4, 3} {
		gives(t, api.OK, m, n, at(s, n))
	}
	wants(t, "the last one", m, false, 12)
	gives(t, api.ErrImage, m, 12, at(s, 12))
	spoilt(t, "bytes 0 for entries", m)
}

// P15.4: a block that was given already, and is wanted again as a directory's, has the bytes that are given then. Of block 0 and of the digests' no digest is known, of the inodes' it is.
func TestMountAgain(t *testing.T) {
	other := padded(name(1, "other"))
	s := made(6, 1, 2, []inode{of(2, 10, extent(1, 1)), of(1, 0)}, nil)
	m := mounted(t, s)
	gives(t, api.OK, m, 1, at(s, 1))
	gives(t, api.OK, m, 2, at(s, 2))
	wants(t, "the digests' again", m, false, 1)
	if _, e := m.Lookup("/other"); e != api.ErrState {
		t.Errorf("Lookup ahead of it: %v", e)
	}
	gives(t, api.OK, m, 1, other)
	wants(t, "ready", m, true)
	if i := found(t, m, "/other"); i.Kind != 1 {
		t.Errorf("/other: %v", i)
	}
	for n := range uint32(6) {
		d, e := m.Sum(n)
		if n < 2 && e != api.ErrNone || n >= 2 && (e != api.OK || d != sha(at(s, n))) {
			t.Errorf("Sum(%d): %x %v", n, d, e)
		}
	}

	m = mounted(t, s)
	gives(t, api.OK, m, 1, at(s, 1))
	gives(t, api.OK, m, 2, at(s, 2))
	gives(t, api.ErrImage, m, 1, at(s, 1))
	spoilt(t, "the digests are no entries", m)

	s = made(6, 1, 2, []inode{of(2, 10, extent(0, 1)), of(1, 0)}, nil)
	m = mounted(t, s)
	gives(t, api.OK, m, 1, at(s, 1))
	gives(t, api.OK, m, 2, at(s, 2))
	wants(t, "block 0", m, false, 0)
	gives(t, api.OK, m, 0, other)
	found(t, m, "/other")

	s = made(6, 1, 2, []inode{of(2, 10, extent(2, 1)), of(1, 0)}, nil)
	m = mounted(t, s)
	gives(t, api.OK, m, 1, at(s, 1))
	gives(t, api.OK, m, 2, at(s, 2))
	wants(t, "the inodes' again", m, false, 2)
	gives(t, api.ErrSum, m, 2, other)
	gives(t, api.ErrImage, m, 2, at(s, 2))
	spoilt(t, "the inodes are no entries", m)
}

// R3: of no mount, or of one that New did not make.
func TestMountNil(t *testing.T) {
	block := at(built(t, nil), 1)
	for what, m := range map[string]*rofs.Mount{"nil": nil, "somebody's": {}, "a new one": new(rofs.Mount)} {
		if l := m.Wants(); len(l) != 0 || m.Ready() {
			t.Errorf("%s: it wants %v", what, l)
		}
		for _, e := range []api.Errno{m.Give(1, block), m.Give(0, ""), m.Give(1<<31, "x")} {
			if e != api.ErrNil {
				t.Errorf("%s: Give: %v", what, e)
			}
		}
		if s, e := m.Sum(0); s != "" || e != api.ErrNil {
			t.Errorf("%s: Sum: %x %v", what, s, e)
		}
		for _, path := range []string{"/", "", "/a"} {
			if i, e := m.Lookup(path); !reflect.DeepEqual(i, api.Inode{}) || e != api.ErrNil {
				t.Errorf("%s: Lookup: %v %v", what, i, e)
			}
		}
		if l := m.Wants(); len(l) != 0 || m.Ready() {
			t.Errorf("%s: it wants %v then", what, l)
		}
	}
}

// P15.4, P15.5: against the model, mounts of drawn images, right and wrong, that are given all sorts of blocks.
func TestMountModel(t *testing.T) {
	r := rand.New(rand.NewSource(1505))
	ends := map[int]int{}
	for range 3000 {
		s := drawnImage(r)
		if len(s) < 1024 {
			continue
		}
		m, e := rofs.New(s[:1024])
		model, code := newModelMount(s[:1024])
		if e != code {
			t.Fatalf("New: %v, not %v", e, code)
		}
		if e != api.OK {
			continue
		}
		for step := 0; step < 120 && model.step < 4; step++ {
			n, data := drawnGive(r, s, model)
			want := model.give(n, data)
			if e := m.Give(uint32(n), data); e != want {
				t.Fatalf("Give(%d): %v, not %v", n, e, want)
			}
			compared(t, r, m, model)
			if model.step == 3 && r.Intn(10) == 0 {
				break
			}
		}
		ends[model.step]++
	}
	for _, step := range []int{1, 3, 4} {
		if ends[step] < 3 {
			t.Errorf("how they ended: %v", ends)
		}
	}
}

// drawnGive is a block to give: mostly one that is wanted, as it stands in the image.
func drawnGive(r *rand.Rand, image string, o *modelMount) (int, string) {
	n := r.Intn(len(image)/1024 + 2)
	if len(o.wants) > 0 && r.Intn(8) > 0 {
		n = o.wants[r.Intn(len(o.wants))]
	}
	data := full(0, 1024)
	if 1024*n < len(image) {
		data = image[1024*n:][:1024]
	}
	switch r.Intn(30) {
	case 0:
		data = data[:r.Intn(1024)]
	case 1, 2:
		data = turned(data, r.Intn(8*1024))
	case 3:
		data = padded(name(0, "a"))
	}
	return n, data
}

// compared demands that a mount answers what the model does.
func compared(t testing.TB, r *rand.Rand, m *rofs.Mount, o *modelMount) {
	t.Helper()
	var l []uint32
	for _, n := range o.wants {
		l = append(l, uint32(n))
	}
	wants(t, "against the model", m, o.step == 3, l...)
	n := r.Intn(int(o.h.blocks) + 2)
	want, code := o.sum(n)
	if d, e := m.Sum(uint32(n)); e != code || d != want {
		t.Fatalf("Sum(%d): %x %v, not %x %v", n, d, e, want, code)
	}
	path := ""
	for range r.Intn(4) {
		path += "/" + drawnName(r)
	}
	if r.Intn(10) == 0 {
		path += "/"
	}
	i, found := o.lookup(path)
	if got, e := m.Lookup(path); e != found || !reflect.DeepEqual(got, i) {
		t.Fatalf("Lookup(%s): %v %v, not %v %v", path, got, e, i, found)
	}
}
