package rofs

import (
	"strings"

	"pharos/api"
)

// volume is where files are read: a whole image, or the blocks that a mount was given.
type volume struct {
	inodes []api.Inode
	block  func(n uint32) string
}

// place is what the n-th block of an inode holds, and how many of its bytes are of its data.
func (v volume) place(i api.Inode, n uint32) (string, int) {
	block, e := Place(i, n)
	demand(e == api.OK)
	return v.block(block), int(min(i.Size-n*api.BlockSize, api.BlockSize))
}

// data are all of an inode's.
func (v volume) data(i api.Inode) string {
	var b strings.Builder
	for n := range uint32(need(uint64(i.Size))) {
		block, count := v.place(i, n)
		b.WriteString(block[:count])
	}
	return b.String()
}

// behind are the bytes behind an inode's data, in its last block.
func (v volume) behind(i api.Inode) string {
	if i.Size == 0 {
		return ""
	}
	block, count := v.place(i, (i.Size-1)/api.BlockSize)
	return block[count:]
}

// node is a file or a directory, as it is told.
func (v volume) node(path string, i api.Inode) api.Node {
	if i.Kind == api.KindDir {
		return api.Node{Path: path, Dir: true}
	}
	return api.Node{Path: path, Data: v.data(i)}
}

// reader reads a directory's entries, block by block: in an image that is not right a directory may be far greater than it.
type reader struct {
	volume
	dir  api.Inode
	next uint32 // of its blocks
	rest string // what was read, and not taken
	last string // the name ahead
}

// read begins to read a directory.
func (v volume) read(dir api.Inode) *reader {
	return &reader{volume: v, dir: dir}
}

// more tells whether there is one more entry, or at least a part of it.
func (r *reader) more() bool {
	return r.rest != "" || uint64(r.next) < need(uint64(r.dir.Size))
}

// take is the next n bytes.
func (r *reader) take(n int) string {
	for len(r.rest) < n {
		demand(uint64(r.next) < need(uint64(r.dir.Size)))
		block, count := r.place(r.dir, r.next)
		r.rest += block[:count]
		r.next++
	}
	s := r.rest[:n]
	r.rest = r.rest[n:]
	return s
}

// entry is the next one: a name, and the number of its inode.
func (r *reader) entry() (string, uint32) {
	n := number(r.take(4))
	name := r.take(int(r.take(1)[0]))
	demand(Label(name) && r.last < name && n < uint32(len(r.inodes)))
	r.last = name
	return name, n
}

// find is the number of the inode that a directory has by a name.
func (v volume) find(dir api.Inode, name string) (uint32, api.Errno) {
	if dir.Kind != api.KindDir {
		return 0, api.ErrDir
	}
	for r := v.read(dir); r.more(); {
		if next, n := r.entry(); next == name {
			return n, api.OK
		}
	}
	return 0, api.ErrNone
}
