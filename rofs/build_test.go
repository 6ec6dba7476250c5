package rofs_test

import (
	"fmt"
	"math/rand"
	"slices"
	"strings"
	"testing"

	"pharos/api"
	"pharos/rofs"
)

// P15.2: the chapter's example, byte by byte: five blocks, 0, digests, inodes, the root's data, hi.
func TestBuildExample(t *testing.T) {
	s := built(t, []api.Node{file("/a", "hi")})
	data, root := padded("hi"), padded("\x01\x00\x00\x00\x01a")
	table := padded("\x02\x00\x01\x00\x06\x00\x00\x00\x03\x00\x00\x00\x01\x00\x00\x00" + full(0, 48) +
		"\x01\x00\x01\x00\x02\x00\x00\x00\x04\x00\x00\x00\x01\x00\x00\x00" + full(0, 48))
	digests := padded(full(0, 64) + sha(table) + sha(root) + sha(data))
	first := "pharos1\n\x05\x00\x00\x00\x02\x00\x00\x00\x01\x00\x00\x00\x02\x00\x00\x00" + sha(digests)
	if want := padded(first+sha(first)) + digests + table + root + data; s != want {
		t.Errorf("the example's image: %x", s)
	}
	if l, e := rofs.Nodes(s); e != api.OK || !slices.Equal(l, []api.Node{file("/a", "hi")}) {
		t.Errorf("the example's nodes: %v %v", l, e)
	}
}

// P15.2, R4: no nodes, as nil or not, are the root alone, which has no data: three blocks.
func TestBuildNothing(t *testing.T) {
	s := built(t, nil)
	if want, _ := modelBuild(nil); s != want || len(s) != 3*1024 || s != built(t, []api.Node{}) {
		t.Errorf("the image of nothing: %d bytes", len(s))
	}
	right(t, "nothing", s)
	if l, e := rofs.Nodes(s); len(l) != 0 || e != api.OK {
		t.Errorf("Nodes of nothing: %v %v", l, e)
	}
}

// P15.2: images of trees of all shapes, byte by byte.
func TestBuildBytes(t *testing.T) {
	deep := []api.Node{}
	for k := range 16 {
		deep = append(deep, dir(strings.Repeat("/"+full('q', 32), k+1)))
	}
	for what, l := range map[string][]api.Node{
		"all kinds":          some(),
		"a file of no byte":  {file("/a", "")},
		"one block less one": {file("/a", full(1, 1023))},
		"one block":          {file("/a", full(1, 1024))},
		"one block more one": {file("/a", full(1, 1025))},
		"two blocks":         {file("/a", full(1, 2048)), file("/b", full(2, 2049))},
		"empty directories":  {dir("/a"), dir("/a/b"), dir("/c")},
		"16 names":           deep,
		"a file at 16 names": append(slices.Clone(deep[:15]), file(deep[15].Path, "deep")),
		"15 inodes":          files(14),
		"16 inodes":          files(15),
		"17 inodes":          files(16),
	} {
		s := built(t, l)
		if want, e := modelBuild(l); s != want || e != api.OK {
			t.Errorf("%s: another image", what)
		}
		right(t, what, s)
	}
}

// files are n of them.
func files(n int) []api.Node {
	var l []api.Node
	for k := range n {
		l = append(l, file(fmt.Sprintf("/%05d", k), fmt.Sprint(k)))
	}
	return l
}

// P15.2: the digests' blocks hold their own digests too: a file of 28 blocks makes 32 blocks with one of them, one of 29 makes 34 with two.
func TestBuildDigests(t *testing.T) {
	for size, want := range map[int]int{27: 31, 28: 32, 29: 34, 30: 35, 58: 63, 59: 64, 60: 66, 90: 96, 91: 98} {
		s := built(t, []api.Node{file("/a", full('x', 1024*size))})
		if len(s) != 1024*want {
			t.Errorf("a file of %d blocks: %d blocks, not %d", size, len(s)/1024, want)
		}
		if model, _ := modelBuild([]api.Node{file("/a", full('x', 1024*size))}); s != model {
			t.Errorf("a file of %d blocks: another image", size)
		}
		right(t, fmt.Sprint(size), s)
	}
}

// P15.2: ErrTree, unless the nodes make a tree.
func TestBuildTree(t *testing.T) {
	for what, l := range map[string][]api.Node{
		"no slash":                    {file("a", "")},
		"no path":                     {file("", "")},
		"the root":                    {dir("/")},
		"the root, as a file":         {file("/", "x")},
		"the root, behind":            {dir("/a"), dir("/")},
		"a slash at the end":          {dir("/a"), file("/a/", "")},
		"two slashes":                 {file("//a", "")},
		"two slashes below":           {dir("/a"), file("/a//b", "")},
		"a point":                     {file("/.", "")},
		"two points":                  {file("/..", "")},
		"a point below":               {dir("/a"), file("/a/.", "")},
		"two points below":            {dir("/a"), file("/a/..", "")},
		"33 bytes":                    {file("/"+full('a', 33), "")},
		"a blank":                     {file("/ ", "")},
		"127":                         {file("/\x7f", "")},
		"a byte 0":                    {file("/\x00", "")},
		"no directory":                {file("/a/b", "")},
		"no directory, in between":    {dir("/a"), file("/a/b/c", "")},
		"another directory":           {dir("/a"), file("/b/c", "")},
		"a file for a directory":      {file("/a", ""), file("/a/b", "")},
		"its directory behind it":     {file("/a/b", ""), dir("/a")},
		"a directory with data":       {{Path: "/a", Dir: true, Data: "x"}},
		"falling":                     {file("/b", ""), file("/a", "")},
		"twice":                       {file("/a", ""), file("/a", "")},
		"twice, two kinds":            {dir("/a"), file("/a", "")},
		"directories twice":           {dir("/a"), file("/a/b", ""), dir("/a")},
		"falling below":               {dir("/a"), file("/a/c", ""), file("/a/b", "")},
		"back again":                  {dir("/a"), file("/b", ""), file("/a/c", "")},
		"level by level":              {dir("/a"), dir("/b"), file("/a/c", ""), file("/b/c", "")},
		"as texts rise":               {dir("/a"), file("/a!", ""), file("/a/b", "")},
		"17 names":                    deepest(17),
		"the last one is wrong":       append(files(100), file("/x/y", "")),
		"MaxNodes of them":            files(api.MaxNodes),
		"far more":                    files(3 * api.MaxNodes),
		"one wrong, and far too much": {file("/a", full(0, 1<<26)), file("b", full(0, 1<<26))},
	} {
		if _, e := modelBuild(l); e != api.ErrTree {
			t.Errorf("%s: the model answers %v", what, e)
		}
		refused(t, api.ErrTree, what, l)
	}
}

// deepest are directories, one in the other, the last at that many names.
func deepest(n int) []api.Node {
	var l []api.Node
	for k := range n {
		l = append(l, dir(strings.Repeat("/a", k+1)))
	}
	return l
}

// P15.2: names are told apart from what is below them: a! and a- come behind all that a has, though the slash is greater.
func TestBuildOrder(t *testing.T) {
	l := []api.Node{dir("/a"), file("/a/z", ""), file("/a!", ""), file("/a-", ""), file("/a.", ""), file("/a0", ""), file("/aa", ""), file("/b", "")}
	s := built(t, l)
	right(t, "beside the slash", s)
	for k := range l {
		for j := range k {
			c := slices.Clone(l)
			c[j], c[k] = c[k], c[j]
			refused(t, api.ErrTree, fmt.Sprint("changed places ", j, k), c)
		}
	}
}

// P15.2: MaxNodes - 1 nodes make a tree, with an inode each.
func TestBuildMost(t *testing.T) {
	for _, l := range [][]api.Node{files(api.MaxNodes - 1), files(api.MaxNodes - 2)} {
		s := built(t, l)
		if want, _ := modelBuild(l); s != want {
			t.Errorf("%d nodes: another image", len(l))
		}
		right(t, "the most nodes", s)
	}
	l := append(deepest(16), file("/"+full('b', 32), "x"))
	for k := len(l); k < api.MaxNodes-1; k++ {
		l = append(l, dir(fmt.Sprintf("/c%030d", k)))
	}
	s := built(t, l)
	right(t, "the most directories", s)
	if u, e := rofs.Super(at(s, 0)); e != api.OK || u.Inodes != api.MaxNodes {
		t.Errorf("the most nodes: %v %v", u, e)
	}
}

// P15.2: an image of MaxBlocks blocks may be, one that would have more is ErrFull.
func TestBuildFull(t *testing.T) {
	const most = 63485 // with block 0, 2,048 blocks of digests, one of inodes, one of the root
	data := full('x', 1024*most)
	s := built(t, []api.Node{file("/a", data)})
	if len(s) != 1024*api.MaxBlocks {
		t.Fatalf("%d blocks", len(s)/1024)
	}
	if e := rofs.Check(s); e != api.OK {
		t.Errorf("Check of MaxBlocks blocks: %v", e)
	}
	if l, e := rofs.Nodes(s); e != api.OK || len(l) != 1 || l[0].Data != data {
		t.Errorf("Nodes of MaxBlocks blocks: %v", e)
	}
	if e := rofs.Check(turned(s, 8*len(s)-1)); e != api.ErrImage {
		t.Errorf("Check, the last byte turned: %v", e)
	}
	m := ready(t, s)
	if i := found(t, m, "/a"); content(t, s, i) != data {
		t.Error("another file")
	}
	refused(t, api.ErrFull, "one byte more", []api.Node{file("/a", data+"x")})
	refused(t, api.ErrFull, "one file more", []api.Node{file("/a", data), file("/b", "x")})
	refused(t, api.ErrFull, "far more", []api.Node{file("/a", data), file("/b", data), file("/c", data)})
	refused(t, api.ErrTree, "no tree, and more", []api.Node{file("/b", data), file("/a", data)})
	if s := built(t, []api.Node{file("/a", data[1024:]), file("/b", "x")}); len(s) != 1024*api.MaxBlocks {
		t.Errorf("two files: %d blocks", len(s)/1024)
	}
}

// P15.2, P15.1: against the model, trees that are drawn, and such with something wrong.
func TestBuildModel(t *testing.T) {
	r := rand.New(rand.NewSource(1502))
	for k := range 1500 {
		l := drawnTree(r, r.Intn(30))
		if k%2 == 1 {
			l = spoiltTree(r, l)
		}
		want, code := modelBuild(l)
		s, e := rofs.Build(l)
		if e != code || s != want {
			t.Fatalf("Build(%v): %v, not %v", l, e, code)
		}
		if e == api.OK {
			right(t, "a drawn tree", s)
			if got, e := rofs.Nodes(s); e != api.OK || !slices.Equal(got, l) {
				t.Fatalf("Nodes of %v: %v %v", l, got, e)
			}
		}
	}
}

// drawnTree are nodes that make a tree.
func drawnTree(r *rand.Rand, n int) []api.Node {
	dirs := []string{""}
	var l []api.Node
	for range n {
		p := dirs[r.Intn(len(dirs))] + "/" + drawnName(r)
		if r.Intn(2) == 0 {
			l = append(l, file(p, drawn(r, r.Intn(3)*r.Intn(1100))))
		} else {
			l = append(l, dir(p))
			if strings.Count(p, "/") < 16 {
				dirs = append(dirs, p)
			}
		}
	}
	return modelOrder(l, "")
}

// drawnName is one, mostly short.
func drawnName(r *rand.Rand) string {
	n := 1 + r.Intn(2)
	if r.Intn(5) == 0 {
		n = 1 + r.Intn(32)
	}
	b := make([]byte, n)
	for k := range b {
		b[k] = "ab!-.~0"[r.Intn(7)]
	}
	if s := string(b); s != "." && s != ".." {
		return s
	}
	return "c"
}

// spoiltTree are nodes that most often make none.
func spoiltTree(r *rand.Rand, l []api.Node) []api.Node {
	l = slices.Clone(l)
	if len(l) == 0 {
		return []api.Node{file([]string{"", "/", "a", "/.", "//"}[r.Intn(5)], "")}
	}
	k, j := r.Intn(len(l)), r.Intn(len(l))
	switch r.Intn(7) {
	case 0:
		l[j], l[k] = l[k], l[j]
	case 1:
		l = slices.Delete(l, k, k+1)
	case 2:
		l = slices.Insert(l, k, l[j])
	case 3:
		l[k].Dir = !l[k].Dir
	case 4:
		l[k].Data += "x"
	case 5:
		l[k].Path += []string{"/", " ", "/.", "x", "!", full('y', 32), "/z"}[r.Intn(7)]
	default:
		l[k].Path = turned(l[k].Path, r.Intn(8*len(l[k].Path)))
	}
	return l
}
