package rofs_test

import (
	"fmt"
	"math/rand"
	"reflect"
	"testing"

	"pharos/api"
	"pharos/rofs"
)

// P15.5: the chapter's example.
func TestLookupExample(t *testing.T) {
	m := ready(t, built(t, []api.Node{file("/a", "hi")}))
	if i := found(t, m, "/a"); !reflect.DeepEqual(i, api.Inode{Kind: 1, Size: 2, Extents: []api.Extent{{Start: 4, Len: 1}}}) {
		t.Errorf("/a: %v", i)
	}
	for path, want := range map[string]api.Errno{"/b": api.ErrNone, "/a/b": api.ErrDir, "a": api.ErrArg} {
		if i, e := m.Lookup(path); e != want || !reflect.DeepEqual(i, api.Inode{}) {
			t.Errorf("Lookup(%s): %v %v", path, i, e)
		}
	}
}

// P15.5: all nodes are looked up, and what is beside them, below files, or no path.
func TestLookup(t *testing.T) {
	s := built(t, some())
	m := ready(t, s)
	for k, n := range some() {
		i := found(t, m, n.Path)
		want, _, _ := modelInode(s[1024*3+64*(k+1):][:64], uint32(len(s)/1024))
		if !reflect.DeepEqual(i, want) || (i.Kind == api.KindDir) != n.Dir {
			t.Errorf("%s: %v, not %v", n.Path, i, want)
		}
		if !n.Dir && (content(t, s, i) != n.Data || int(i.Size) != len(n.Data)) {
			t.Errorf("%s: another file", n.Path)
		}
		below := api.ErrNone
		if !n.Dir {
			below = api.ErrDir
		}
		for path, want := range map[string]api.Errno{
			n.Path + "/none":     below,
			n.Path + "/none/too": below,
			n.Path + "/":         api.ErrArg,
			n.Path + "/..":       api.ErrArg,
			n.Path + " ":         api.ErrArg,
			n.Path[1:]:           api.ErrArg,
			"/" + n.Path:         api.ErrArg,
			"/none" + n.Path:     api.ErrNone,
		} {
			if i, e := m.Lookup(path); e != want || !reflect.DeepEqual(i, api.Inode{}) {
				t.Errorf("Lookup(%s): %v %v, not %v", path, i, e, want)
			}
		}
	}
	if i := found(t, m, "/"); i.Kind != api.KindDir || i.Size == 0 {
		t.Errorf("the root: %v", i)
	}
	for _, path := range []string{"/A", "/a ", "/aa", "/`", "/zz", "/y", "/d/0", "/d/" + fmt.Sprintf("%031d", 0), "/a/b/c/e", "/b!"} {
		if _, e := m.Lookup(path); e == api.OK {
			t.Errorf("Lookup(%s) finds something", path)
		}
	}
}

// P15.5: paths of 16 names are looked up.
func TestLookupDeep(t *testing.T) {
	l := deepest(16)
	m := ready(t, built(t, l))
	for _, n := range l {
		if i := found(t, m, n.Path); i.Kind != api.KindDir {
			t.Errorf("%s: %v", n.Path, i)
		}
	}
	if _, e := m.Lookup(l[15].Path + "/a"); e != api.ErrArg {
		t.Errorf("17 names: %v", e)
	}
	l[15] = file(l[15].Path, "x")
	m = ready(t, built(t, l))
	if i := found(t, m, l[15].Path); i.Kind != api.KindFile || i.Size != 1 {
		t.Errorf("a file at 16 names: %v", i)
	}
}

// P15.5: ErrState ahead of ErrArg, as long as the mount is not ready.
func TestLookupState(t *testing.T) {
	s := built(t, some())
	m := mounted(t, s)
	for !m.Ready() {
		for _, path := range []string{"/", "/a", "/none", "a", "", "/b/c"} {
			if i, e := m.Lookup(path); e != api.ErrState || !reflect.DeepEqual(i, api.Inode{}) {
				t.Fatalf("Lookup(%s): %v %v", path, i, e)
			}
		}
		n := m.Wants()[0]
		gives(t, api.OK, m, n, at(s, n))
	}
}

// P15.5: digests are told once all are given; of block 0, the digests' own, and blocks that there are not, there are none.
func TestSum(t *testing.T) {
	s := built(t, files(50))
	h, _ := modelHead(at(s, 0))
	m := mounted(t, s)
	for _, n := range h.ofSums() {
		for _, block := range []uint32{0, 1, 2, 3, 4, h.blocks - 1, h.blocks, 1<<32 - 1} {
			if d, e := m.Sum(block); e != api.ErrState || d != "" {
				t.Fatalf("Sum(%d) ahead: %x %v", block, d, e)
			}
		}
		gives(t, api.OK, m, uint32(n), at(s, uint32(n)))
	}
	if len(h.ofSums()) != 2 {
		t.Fatalf("%v", h)
	}
	told := func() {
		t.Helper()
		for n := range h.blocks {
			want, code := sha(at(s, n)), api.OK
			if n <= 2 {
				want, code = "", api.ErrNone
			}
			if d, e := m.Sum(n); e != code || d != want {
				t.Fatalf("Sum(%d): %x %v", n, d, e)
			}
		}
		for _, n := range []uint32{h.blocks, h.blocks + 1, 63, 64, 1 << 16, 1 << 27, 1<<27 + 3, 1 << 31, 1<<32 - 1} {
			if d, e := m.Sum(n); n >= h.blocks && (e != api.ErrNone || d != "") {
				t.Fatalf("Sum(%d): %x %v", n, d, e)
			}
		}
	}
	told()
	if e := fed(t, m, s); e != api.OK {
		t.Fatal(e)
	}
	told()
}

// P15.5: the digests' own blocks are those that block 0 tells.
func TestSumPlaces(t *testing.T) {
	s := made(40, 37, 2, []inode{of(2, 0)}, map[int]string{1: "one", 36: "x", 39: "y"})
	m := ready(t, s)
	for n := range uint32(41) {
		d, e := m.Sum(n)
		if n == 0 || n == 37 || n == 38 || n == 40 {
			if e != api.ErrNone || d != "" {
				t.Errorf("Sum(%d): %x %v", n, d, e)
			}
		} else if e != api.OK || d != sha(at(s, n)) {
			t.Errorf("Sum(%d): %x %v", n, d, e)
		}
	}
}

// P15.5: which block is the n-th of an inode.
func TestPlace(t *testing.T) {
	i := api.Inode{Kind: 1, Size: 6 * 1024, Extents: []api.Extent{{Start: 9, Len: 1}, {Start: 20, Len: 3}, {Start: 4, Len: 2}}}
	for n, want := range []uint32{9, 20, 21, 22, 4, 5} {
		if k, e := rofs.Place(i, uint32(n)); e != api.OK || k != want {
			t.Errorf("Place(%d): %d %v", n, k, e)
		}
	}
	for _, n := range []uint32{6, 7, 1 << 16, 1 << 31, 1<<32 - 1} {
		if k, e := rofs.Place(i, n); e != api.ErrNone || k != 0 {
			t.Errorf("Place(%d): %d %v", n, k, e)
		}
	}
	for _, i := range []api.Inode{{}, {Kind: 1}, {Kind: 2, Extents: []api.Extent{}}, {Kind: 1, Size: 5000}} {
		for _, n := range []uint32{0, 1, 1<<32 - 1} {
			if k, e := rofs.Place(i, n); e != api.ErrNone || k != 0 {
				t.Errorf("Place(%v, %d): %d %v", i, n, k, e)
			}
		}
	}
}

// P15.5, R1: inodes that no image has: extents that are empty, or go to the end of all numbers.
func TestPlaceOdd(t *testing.T) {
	i := api.Inode{Extents: []api.Extent{{Start: 3, Len: 0}, {Start: 7, Len: 1}, {}, {Start: 8, Len: 1}, {Start: 1<<32 - 2, Len: 4}, {Start: 5, Len: 1}}}
	for n, want := range []uint32{7, 8, 1<<32 - 2, 1<<32 - 1} {
		if k, e := rofs.Place(i, uint32(n)); e != api.OK || k != want {
			t.Errorf("Place(%d): %d %v", n, k, e)
		}
	}
	for _, n := range []uint32{4, 5, 7, 8, 1<<32 - 1} {
		if k, e := rofs.Place(i, n); e != api.ErrNone || k != 0 {
			t.Errorf("Place(%d), a block whose number is none: %d %v", n, k, e)
		}
	}
	if k, e := rofs.Place(i, 6); e != api.OK || k != 5 {
		t.Errorf("Place(6): %d %v", k, e)
	}
	long := api.Inode{Extents: []api.Extent{{Start: 0, Len: 1<<32 - 1}, {Start: 100, Len: 1<<32 - 1}}}
	for n, want := range map[uint32]uint32{0: 0, 1<<32 - 2: 1<<32 - 2, 1<<32 - 1: 100} {
		if k, e := rofs.Place(long, n); e != api.OK || k != want {
			t.Errorf("Place(%d) of a long one: %d %v", n, k, e)
		}
	}
}

// P15.5: against a list of all blocks.
func TestPlaceModel(t *testing.T) {
	r := rand.New(rand.NewSource(1506))
	for range 2000 {
		var i api.Inode
		var l []uint32
		for range r.Intn(8) {
			x := api.Extent{Start: uint32(r.Intn(65536)), Len: uint32(r.Intn(5))}
			i.Extents = append(i.Extents, x)
			for k := range x.Len {
				l = append(l, x.Start+k)
			}
		}
		for n := range uint32(len(l) + 3) {
			k, e := rofs.Place(i, n)
			if int(n) < len(l) && (e != api.OK || k != l[n]) || int(n) >= len(l) && (e != api.ErrNone || k != 0) {
				t.Fatalf("Place(%v, %d): %d %v", i, n, k, e)
			}
		}
	}
}
