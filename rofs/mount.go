package rofs

import (
	"slices"
	"strings"

	"pharos/api"
	"pharos/sum"
)

// Mount is an image that is being read, block by block.
type Mount struct {
	made   bool // by this package, not by somebody's new
	super  super
	sums   string            // all digests, once they are known
	files  volume            // the inodes, once they are known
	wanted []bool            // which blocks are
	left   int               // how many these are
	given  map[uint32]string // blocks that were, for what is next
	next   func()            // what is done once nothing is wanted; nil once it is ready, or spoilt
	ready  bool
}

// New is a mount of the image that has this block 0.
func New(block string) (*Mount, api.Errno) {
	s, e := Super(block)
	if e != api.OK {
		return nil, e
	}
	m := &Mount{made: true, super: super{s}, wanted: make([]bool, s.Blocks)}
	m.files.block = func(n uint32) string { return m.given[n] }
	m.await(m.readSums, m.super.digestBlocks())
	return m, api.OK
}

// Wants are the blocks that it wants now, rising.
func (m *Mount) Wants() []uint32 {
	if !m.is() {
		return nil
	}
	var l []uint32
	for n, is := range m.wanted {
		if is {
			l = append(l, uint32(n))
		}
	}
	return l
}

// Give hands it a block that it wants. If that was the last one, it goes on.
func (m *Mount) Give(block uint32, data string) api.Errno {
	switch {
	case !m.is():
		return api.ErrNil
	case m.spoilt():
		return api.ErrState
	case block >= m.super.Blocks || !m.wanted[block] || len(data) != api.BlockSize:
		return api.ErrArg
	case m.other(block, data):
		return api.ErrSum
	}
	m.given[block] = strings.Clone(data)
	m.wanted[block] = false
	m.left--
	return m.proceed()
}

// Ready tells whether all directories are known.
func (m *Mount) Ready() bool {
	return m.is() && m.ready
}

// Sum is the digest of a block.
func (m *Mount) Sum(block uint32) (string, api.Errno) {
	switch {
	case !m.is():
		return "", api.ErrNil
	case m.sums == "":
		return "", api.ErrState
	case block >= m.super.Blocks || block == 0 || has(m.super.digestBlocks(), block):
		return "", api.ErrNone
	}
	return strings.Clone(m.sums[int(block)*api.Key:][:api.Key]), api.OK
}

// Lookup is the inode of a path.
func (m *Mount) Lookup(path string) (api.Inode, api.Errno) {
	if !m.is() {
		return api.Inode{}, api.ErrNil
	}
	if !m.ready {
		return api.Inode{}, api.ErrState
	}
	l, is := names(path)
	if !is {
		return api.Inode{}, api.ErrArg
	}
	i := m.files.inodes[0]
	for _, name := range l {
		n, e := m.files.find(i, name)
		if e != api.OK {
			return api.Inode{}, e
		}
		i = m.files.inodes[n]
	}
	i.Extents = slices.Clone(i.Extents)
	return i, api.OK
}

// is tells whether there is a mount.
func (m *Mount) is() bool {
	return m != nil && m.made
}

// spoilt tells whether what it was given was no image.
func (m *Mount) spoilt() bool {
	return m.next == nil && !m.ready
}

// other tells whether these are not the bytes of a block, as far as its digest is known.
func (m *Mount) other(block uint32, data string) bool {
	digest, e := m.Sum(block)
	return e == api.OK && digest != sum.Of(data)
}

// await lets it want blocks, and keeps what is to be done once it has them. What was given ahead was for something else.
func (m *Mount) await(next func(), l ...api.Extent) {
	m.next, m.given = next, map[uint32]string{}
	for _, x := range l {
		for n := x.Start; n < x.Start+x.Len; n++ {
			if !m.wanted[n] {
				m.wanted[n] = true
				m.left++
			}
		}
	}
}

// proceed does what is next, as long as nothing is wanted for it. An error spoils it.
func (m *Mount) proceed() api.Errno {
	e := caught(func() {
		for m.left == 0 && !m.ready {
			m.next()
		}
	})
	if e != api.OK {
		m.next, m.given, m.files.inodes = nil, nil, nil
	}
	return e
}

// readSums reads the digests.
func (m *Mount) readSums() {
	l := m.files.data(whole(m.super.digestBlocks()))
	if !m.super.tells(l) {
		panic(api.ErrSum)
	}
	m.sums = l
	m.await(m.readTable, m.super.inodeBlocks())
}

// readTable reads the inodes.
func (m *Mount) readTable() {
	m.files.inodes = readInodes(m.files.data(whole(m.super.inodeBlocks())), m.super)
	var l []api.Extent
	for _, i := range m.files.inodes {
		if i.Kind == api.KindDir {
			l = append(l, i.Extents...)
		}
	}
	m.await(m.readDirs, l...)
}

// readDirs reads all directories. Their blocks are kept: in an image that is not right their entries may be far more than these.
func (m *Mount) readDirs() {
	for _, i := range m.files.inodes {
		if i.Kind != api.KindDir {
			continue
		}
		for r := m.files.read(i); r.more(); {
			r.entry()
		}
	}
	m.next, m.ready = nil, true
}
