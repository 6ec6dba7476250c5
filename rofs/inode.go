package rofs

import "pharos/api"

// lead is how many bytes of an inode stand ahead of its extents.
const lead = 8

// Place is the n-th block of an inode.
func Place(i api.Inode, n uint32) (uint32, api.Errno) {
	for _, x := range i.Extents {
		if n < x.Len {
			return placed(x, n)
		}
		n -= x.Len
	}
	return 0, api.ErrNone
}

// placed is the n-th block of an extent. One whose number is more than numbers can tell is none.
func placed(x api.Extent, n uint32) (uint32, api.Errno) {
	if x.Start+n < x.Start {
		return 0, api.ErrNone
	}
	return x.Start + n, api.OK
}

// whole is an inode that has just the blocks of one extent.
func whole(x api.Extent) api.Inode {
	return api.Inode{Size: x.Len * api.BlockSize, Extents: []api.Extent{x}}
}

// readInodes reads all inodes, of which the first one must be the root.
func readInodes(table string, s super) []api.Inode {
	l := make([]api.Inode, s.Inodes)
	for k := range l {
		l[k] = readInode(table[k*api.InodeSize:][:api.InodeSize], s.Blocks)
	}
	demand(l[0].Kind == api.KindDir)
	return l
}

// readInode reads one, of an image of that many blocks.
func readInode(s string, blocks uint32) api.Inode {
	i := api.Inode{Kind: uint16(number(s[:2])), Size: word(s, 1)}
	demand(i.Kind == api.KindFile || i.Kind == api.KindDir)
	count := int(number(s[2:4]))
	demand(count <= api.MaxExtents)
	held := uint64(0)
	for k := range count {
		x := api.Extent{Start: word(s, 2+2*k), Len: word(s, 3+2*k)}
		demand(x.Len >= 1 && inside(x, blocks))
		i.Extents = append(i.Extents, x)
		held += uint64(x.Len)
	}
	demand(held == need(uint64(i.Size)))
	demand(zero(s[lead+8*count:]))
	return i
}

// writeInode is the bytes of one. (Kind and count, of two bytes each, are one number of four.)
func writeInode(i api.Inode) string {
	s := words(uint32(i.Kind)|uint32(len(i.Extents))<<16, i.Size)
	for _, x := range i.Extents {
		s += words(x.Start, x.Len)
	}
	return s + zeros(api.InodeSize-len(s))
}
