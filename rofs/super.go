package rofs

import (
	"strings"

	"pharos/api"
	"pharos/sum"
)

// magic is what an image begins with.
const magic = "pharos1\n"

// first is where block 0 has its first digest: behind the magic and four numbers.
const first = len(magic) + 4*4

// second is where it has its second one, of all the bytes ahead.
const second = first + api.Key

// perBlock is how many digests stand in a block.
const perBlock = api.BlockSize / api.Key

// super is what block 0 tells.
type super struct{ api.Super }

// Super is what block 0 tells of an image.
func Super(block string) (api.Super, api.Errno) {
	var s super
	e := caught(func() { s = readSuper(block) })
	return s.Super, e
}

// readSuper reads block 0.
func readSuper(block string) super {
	demand(len(block) == api.BlockSize && strings.HasPrefix(block, magic))
	demand(block[second:second+api.Key] == sum.Of(block[:second]))
	demand(zero(block[second+api.Key:]))
	s := super{api.Super{
		Blocks: word(block, 2),
		Inodes: word(block, 3),
		Sums:   word(block, 4),
		Table:  word(block, 5),
		Digest: strings.Clone(block[first:second]),
	}}
	demand(s.Blocks >= 1 && s.Blocks <= api.MaxBlocks)
	demand(s.Inodes >= 1 && s.Inodes <= api.MaxNodes)
	x, y := s.digestBlocks(), s.inodeBlocks()
	demand(x.Start > 0 && inside(x, s.Blocks))
	demand(y.Start > 0 && inside(y, s.Blocks))
	demand(!has(x, y.Start) && !has(y, x.Start))
	return s
}

// write is block 0 of it.
func (s super) write() string {
	ahead := magic + words(s.Blocks, s.Inodes, s.Sums, s.Table) + s.Digest
	return filled(ahead + sum.Of(ahead))
}

// digestBlocks are those of the digests.
func (s super) digestBlocks() api.Extent {
	return api.Extent{Start: s.Sums, Len: uint32(need(uint64(s.Blocks) * api.Key))}
}

// inodeBlocks are those of the inodes.
func (s super) inodeBlocks() api.Extent {
	return api.Extent{Start: s.Table, Len: uint32(need(uint64(s.Inodes) * api.InodeSize))}
}

// tells answers whether these are all bytes of the digests' blocks.
func (s super) tells(l string) bool {
	return sum.Of(l) == s.Digest
}

// sumsOf are the bytes that the digests' blocks of an image must have.
func sumsOf(image string, own api.Extent) string {
	var b strings.Builder
	for n := range uint32(len(image) / api.BlockSize) {
		if n == 0 || has(own, n) {
			b.WriteString(zeros(api.Key))
		} else {
			b.WriteString(sum.Of(blockOf(image, n)))
		}
	}
	return filled(b.String())
}
