package rofs_test

import (
	"math/rand"
	"reflect"
	"slices"
	"sync"
	"testing"

	"pharos/api"
	"pharos/rofs"
)

// P15.6: Build's image is right, and has just those nodes; whoever is given its blocks finds just what stands in it.
func TestFollows(t *testing.T) {
	r := rand.New(rand.NewSource(1507))
	for range 300 {
		l := drawnTree(r, r.Intn(40))
		s := built(t, l)
		if e := rofs.Check(s); e != api.OK {
			t.Fatalf("Check of %v: %v", l, e)
		}
		if got, e := rofs.Nodes(s); e != api.OK || !slices.Equal(got, l) {
			t.Fatalf("Nodes of %v: %v %v", l, got, e)
		}
		finds(t, r, s, l)
	}
}

// P15.6: the same of images by hand, right ones that Build does not make: inodes, digests and data are in any order.
func TestFollowsAnywhere(t *testing.T) {
	r := rand.New(rand.NewSource(1508))
	for range 300 {
		l := drawnTree(r, r.Intn(25))
		s := strewn(t, r, l)
		right(t, "strewn", s)
		if got, e := rofs.Nodes(s); e != api.OK || !slices.Equal(got, l) {
			t.Fatalf("Nodes of %v: %v %v", l, got, e)
		}
		finds(t, r, s, l)
	}
}

// finds demands that a mount, given blocks in any order, finds all nodes, and nothing beside them.
func finds(t *testing.T, r *rand.Rand, image string, l []api.Node) {
	t.Helper()
	m := mounted(t, image)
	for !m.Ready() {
		w := m.Wants()
		n := w[r.Intn(len(w))]
		gives(t, api.OK, m, n, at(image, n))
	}
	known := map[string]bool{"/": true}
	for _, n := range l {
		known[n.Path] = true
		i := found(t, m, n.Path)
		if n.Dir != (i.Kind == api.KindDir) || !n.Dir && content(t, image, i) != n.Data {
			t.Fatalf("%s: %v", n.Path, i)
		}
	}
	for range 50 {
		path := "/" + drawnName(r)
		if len(l) > 0 && r.Intn(2) == 0 {
			path = l[r.Intn(len(l))].Path + path
		}
		if _, e := m.Lookup(path); (e == api.OK) != known[path] {
			t.Fatalf("Lookup(%s): %v", path, e)
		}
	}
	for n := range uint32(len(image) / 1024) {
		if d, e := m.Sum(n); e == api.OK && d != sha(at(image, n)) {
			t.Fatalf("Sum(%d): %x", n, d)
		}
	}
}

// strewn is an image of nodes whose parts stand anywhere, files in up to six extents, with blocks between them that nobody has.
func strewn(t *testing.T, r *rand.Rand, l []api.Node) string {
	t.Helper()
	order := r.Perm(len(l)) // which inode is whose
	inodes := make([]inode, 1+len(l))
	texts := make([]string, 1+len(l))
	for k, n := range l {
		texts[1+order[k]] = n.Data
	}
	texts[0] = strewnDir(l, order, "")
	for k, n := range l {
		if n.Dir {
			texts[1+order[k]] = strewnDir(l, order, n.Path)
		}
	}
	need := 0
	for _, s := range texts {
		need += blocks(len(s))
	}
	own := blocks(64 * len(texts))
	count := 9 + own + need + r.Intn(6) // eight blocks for the digests are enough, or more than that
	sums, table := 1, 9
	if r.Intn(2) == 0 {
		sums, table = 1+own, 1
	}
	free := row(9+own, need)
	r.Shuffle(len(free), func(a, b int) { free[a], free[b] = free[b], free[a] })
	data := map[int]string{}
	for k, s := range texts {
		kind := uint16(2)
		if k > 0 && !l[slices.Index(order, k-1)].Dir {
			kind = 1
		}
		n := blocks(len(s))
		if n > 6 {
			t.Fatalf("a file of %d blocks", n)
		}
		inodes[k] = of(kind, len(s))
		for j, block := range free[:n] {
			inodes[k].extents[j] = api.Extent{Start: uint32(block), Len: 1}
			inodes[k].count++
			data[block] = s[1024*j : min(len(s), 1024*j+1024)]
		}
		free = free[n:]
	}
	return made(count, uint32(sums), uint32(table), inodes, data)
}

// strewnDir are a directory's entries.
func strewnDir(l []api.Node, order []int, path string) string {
	s := ""
	for k, n := range l {
		if dir, last := cut(n.Path); dir == path {
			s += name(uint32(1+order[k]), last)
		}
	}
	return s
}

// cut is a path's directory, and its last name.
func cut(path string) (string, string) {
	k := len(path) - 1
	for path[k] != '/' {
		k--
	}
	return path[:k], path[k+1:]
}

// P15.6: no bit of a block whose digest is known may be another one: Give finds it out, and so does Check.
func TestFollowsTurned(t *testing.T) {
	r := rand.New(rand.NewSource(1509))
	s := built(t, some())
	whole := ready(t, s)
	for range 3000 {
		bit := r.Intn(8 * len(s))
		b := turned(s, bit)
		n := uint32(bit / 8 / 1024)
		if e := rofs.Check(b); e != api.ErrImage {
			t.Fatalf("Check, bit %d: %v", bit, e)
		}
		if d, e := whole.Sum(n); e == api.OK && d == sha(at(b, n)) {
			t.Fatalf("Sum, bit %d: %x", bit, d)
		}
		if n == 0 {
			continue
		}
		m := mounted(t, s)
		last := api.OK
		for last == api.OK && !m.Ready() {
			w := m.Wants()[0]
			last = m.Give(w, at(b, w))
		}
		i, l, _ := modelDirBlocks(s)
		if asked := slices.Contains(l, int(n)) || int(n) < i; asked != (last == api.ErrSum) {
			t.Fatalf("a mount, bit %d: %v", bit, last)
		}
	}
}

// modelDirBlocks: which blocks are those of directories, behind the first so many, that are block 0, the digests and the inodes.
func modelDirBlocks(image string) (int, []int, bool) {
	h, is := modelHead(image[:1024])
	var all []int
	for k := range int(h.inodes) {
		if i, l, _ := modelInode(image[int(h.table)*1024+64*k:][:64], h.blocks); i.Kind == 2 {
			all = append(all, l...)
		}
	}
	return int(h.table) + len(h.ofTable()), all, is
}

// R5: lists that are answered are the caller's: changing them changes nothing.
func TestAnswersAreNew(t *testing.T) {
	s := built(t, some())
	m := mounted(t, s)
	w := m.Wants()
	want := slices.Clone(w)
	for k := range w {
		w[k] = 99
	}
	wants(t, "what it wanted", m, false, want...)
	if e := fed(t, m, s); e != api.OK {
		t.Fatal(e)
	}
	i := found(t, m, "/a!")
	was := slices.Clone(i.Extents)
	i.Extents[0] = api.Extent{Start: 77, Len: 77}
	if j := found(t, m, "/a!"); !reflect.DeepEqual(j.Extents, was) {
		t.Errorf("Lookup: %v, not %v", j.Extents, was)
	}
	l, _ := rofs.Nodes(s)
	l[0].Path = "/other"
	if k, e := rofs.Nodes(s); e != api.OK || !slices.Equal(k, some()) {
		t.Errorf("Nodes: %v", e)
	}
}

// R5: what is handed in stays as it is.
func TestArgumentsStay(t *testing.T) {
	l := some()
	built(t, l)
	if !slices.Equal(l, some()) {
		t.Error("Build changed its nodes")
	}
	spoilt := append(some(), file("/a", ""))
	was := slices.Clone(spoilt)
	refused(t, api.ErrTree, "out of order", spoilt)
	if !slices.Equal(spoilt, was) {
		t.Error("Build changed nodes that make no tree")
	}
	i := api.Inode{Extents: []api.Extent{{Start: 4, Len: 3}, {Start: 9, Len: 1}}}
	rofs.Place(i, 3)
	if !reflect.DeepEqual(i, api.Inode{Extents: []api.Extent{{Start: 4, Len: 3}, {Start: 9, Len: 1}}}) {
		t.Error("Place changed its inode")
	}
}

// R6: a call's answer does not hang on the calls before or beside it.
func TestAlone(t *testing.T) {
	s, other := built(t, some()), built(t, files(9))
	var all sync.WaitGroup
	for range 8 {
		all.Go(func() {
			for range 5 {
				if b, e := rofs.Build(some()); e != api.OK || b != s {
					t.Error("Build answers something else")
				}
				if b, e := rofs.Build(files(9)); e != api.OK || b != other {
					t.Error("Build answers something else")
				}
				if l, e := rofs.Nodes(other); e != api.OK || !slices.Equal(l, files(9)) {
					t.Error("Nodes answers something else")
				}
				m, _ := rofs.New(at(s, 0))
				for !m.Ready() {
					n := m.Wants()[0]
					if e := m.Give(n, at(s, n)); e != api.OK {
						t.Errorf("Give(%d): %v", n, e)
						return
					}
				}
				if i, e := m.Lookup("/a/b/c/d"); e != api.OK || i.Size != 4 {
					t.Errorf("Lookup: %v %v", i, e)
				}
			}
		})
	}
	all.Wait()
}

// R6: two mounts of one image do not know one another.
func TestMountsAlone(t *testing.T) {
	s := built(t, some())
	a, b := mounted(t, s), mounted(t, s)
	was := b.Wants()
	if e := fed(t, a, s); e != api.OK {
		t.Fatal(e)
	}
	wants(t, "the other one", b, false, was...)
	for _, n := range was[1:] {
		gives(t, api.OK, b, n, at(s, n))
	}
	gives(t, api.ErrSum, b, was[0], full(1, 1024))
	spoilt(t, "the other one", b)
	found(t, a, "/a/b/c/d")
}
