package rofs

import (
	"slices"
	"strings"

	"pharos/api"
	"pharos/sum"
)

// Build is the image of nodes that make a tree.
func Build(l []api.Node) (string, api.Errno) {
	files, is := grown(l)
	if !is {
		return "", api.ErrTree
	}
	s, is := planned(files)
	if !is {
		return "", api.ErrFull
	}
	image := zeros(int(s.Table)*api.BlockSize) + laid(files, s)
	digests := sumsOf(image, s.digestBlocks())
	s.Digest = sum.Of(digests)
	return s.write() + digests + image[int(s.Table)*api.BlockSize:], api.OK
}

// file is one, or a directory, with its data.
type file struct {
	kind uint16
	data string
}

// tree is what nodes make, as far as they came.
type tree struct {
	files []file         // by their inodes' numbers
	dirs  map[string]int // the numbers of the directories, by their paths (the root's is empty)
	last  []string       // the names of the last node
}

// grown are the files of nodes, if these make a tree.
func grown(l []api.Node) ([]file, bool) {
	if len(l) >= api.MaxNodes {
		return nil, false
	}
	t := tree{files: []file{{kind: api.KindDir}}, dirs: map[string]int{"": 0}}
	for _, n := range l {
		if !t.add(n) {
			return nil, false
		}
	}
	return t.files, true
}

// add takes a node, if it may be the next one. Nodes are in order, if their lists of names rise: those of a directory are the beginning of those of all that it has.
func (t *tree) add(n api.Node) bool {
	l, is := names(n.Path)
	if !is || slices.Compare(t.last, l) >= 0 || n.Dir && n.Data != "" {
		return false
	}
	name := l[len(l)-1]
	dir, is := t.dirs[strings.TrimSuffix(n.Path, "/"+name)]
	if !is {
		return false
	}
	t.last = l
	t.enter(dir, name)
	if n.Dir {
		t.dirs[n.Path] = len(t.files)
		t.files = append(t.files, file{kind: api.KindDir})
	} else {
		t.files = append(t.files, file{kind: api.KindFile, data: n.Data})
	}
	return true
}

// enter writes an entry for the next file.
func (t *tree) enter(dir int, name string) {
	t.files[dir].data += words(uint32(len(t.files))) + string([]byte{byte(len(name))}) + name
}

// planned tells how many blocks there are, and where, if they may be that many. Each block of digests has one of itself among them, and room for those of perBlock - 1 others. (One more of them would be right too, where that leaves no room.)
func planned(l []file) (super, bool) {
	rest := need(uint64(len(l)) * api.InodeSize)
	for _, f := range l {
		rest += need(uint64(len(f.data)))
	}
	sums := (1 + rest + perBlock - 2) / (perBlock - 1)
	if 1+sums+rest > api.MaxBlocks {
		return super{}, false
	}
	return super{api.Super{
		Blocks: uint32(1 + sums + rest),
		Inodes: uint32(len(l)),
		Sums:   1,
		Table:  uint32(1 + sums),
	}}, true
}

// laid are the blocks of the inodes, and of all data.
func laid(l []file, s super) string {
	var table, data strings.Builder
	next := s.Table + s.inodeBlocks().Len
	for _, f := range l {
		i := api.Inode{Kind: f.kind, Size: uint32(len(f.data))}
		if count := uint32(need(uint64(i.Size))); count > 0 {
			i.Extents = []api.Extent{{Start: next, Len: count}}
			next += count
		}
		table.WriteString(writeInode(i))
		data.WriteString(filled(f.data))
	}
	return filled(table.String()) + data.String()
}
