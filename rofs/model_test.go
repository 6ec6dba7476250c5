package rofs_test

import (
	"crypto/sha256"
	"encoding/binary"
	"regexp"
	"slices"
	"strings"

	"pharos/api"
)

// What rofs answers is held against the chapter's words, written anew, with the library's digests.

// sha is a text's digest.
func sha(s string) string {
	d := sha256.Sum256([]byte(s))
	return string(d[:])
}

// le are numbers of four bytes, the lowest first.
func le(l ...uint32) string {
	var b []byte
	for _, n := range l {
		b = binary.LittleEndian.AppendUint32(b, n)
	}
	return string(b)
}

// u32 is the number that stands there.
func u32(s string, at int) uint32 {
	return binary.LittleEndian.Uint32([]byte(s[at : at+4]))
}

// full are n times one byte.
func full(c byte, n int) string {
	return strings.Repeat(string([]byte{c}), n)
}

// blocks is how many that many bytes need.
func blocks(bytes int) int {
	n := 0
	for n*1024 < bytes {
		n++
	}
	return n
}

// padded is a text up to a whole block.
func padded(s string) string {
	return s + full(0, blocks(len(s))*1024-len(s))
}

// at is a block of an image.
func at(image string, n uint32) string {
	return image[int(n)*1024 : int(n+1)*1024]
}

var (
	oneName  = regexp.MustCompile(`^[!-.0-~]{1,32}$`)
	manyName = regexp.MustCompile(`^(/[!-.0-~]{1,32}){0,16}$`)
	pointed  = regexp.MustCompile(`/\.\.?(/|$)`)
)

// modelLabel: whether a text may be a name.
func modelLabel(s string) bool {
	return oneName.MatchString(s) && s != "." && s != ".."
}

// modelPath: whether a text is a path.
func modelPath(s string) bool {
	return s == "/" || s != "" && manyName.MatchString(s) && !pointed.MatchString(s)
}

// head is what block 0 tells.
type head struct {
	blocks, inodes, sums, table uint32
	digest                      string
}

func modelHead(block string) (head, bool) {
	if len(block) != 1024 || block[:8] != "pharos1\x0a" || sha(block[:56]) != block[56:88] || block[88:] != full(0, 1024-88) {
		return head{}, false
	}
	h := head{u32(block, 8), u32(block, 12), u32(block, 16), u32(block, 20), block[24:56]}
	if h.blocks == 0 || h.blocks > 65536 || h.inodes == 0 || h.inodes > 1024 {
		return head{}, false
	}
	held := map[int]bool{0: true}
	for _, n := range h.own() {
		if n >= int(h.blocks) || held[n] {
			return head{}, false
		}
		held[n] = true
	}
	return h, true
}

// own are the blocks of the digests, and of the inodes.
func (h head) own() []int {
	return append(h.ofSums(), h.ofTable()...)
}

func (h head) ofSums() []int {
	return row(int(h.sums), blocks(int(h.blocks)*32))
}

func (h head) ofTable() []int {
	return row(int(h.table), blocks(int(h.inodes)*64))
}

// row are n numbers.
func row(from, n int) []int {
	var l []int
	for k := range n {
		l = append(l, from+k)
	}
	return l
}

// modelInode: what 64 bytes tell, if they are an inode of an image of that many blocks; and which blocks these are.
func modelInode(s string, all uint32) (api.Inode, []int, bool) {
	i := api.Inode{Kind: binary.LittleEndian.Uint16([]byte(s)), Size: u32(s, 4)}
	count := int(s[2]) + 256*int(s[3])
	if i.Kind != 1 && i.Kind != 2 || count > 6 {
		return api.Inode{}, nil, false
	}
	var l []int
	for k := range 6 {
		start, n := u32(s, 8+8*k), u32(s, 12+8*k)
		if k >= count {
			if start != 0 || n != 0 {
				return api.Inode{}, nil, false
			}
			continue
		}
		if n == 0 || start >= all || n > all-start {
			return api.Inode{}, nil, false
		}
		i.Extents = append(i.Extents, api.Extent{Start: start, Len: n})
		l = append(l, row(int(start), int(n))...)
	}
	if len(l) != blocks(int(i.Size)) || s[56:] != full(0, 8) {
		return api.Inode{}, nil, false
	}
	return i, l, true
}

// entry is one of a directory.
type entry struct {
	inode uint32
	name  string
}

// modelEntries: what a directory's data tell, if they are entries.
func modelEntries(s string, inodes int) ([]entry, bool) {
	var l []entry
	for s != "" {
		if len(s) < 5 || len(s) < 5+int(s[4]) {
			return nil, false
		}
		x := entry{u32(s, 0), s[5 : 5+int(s[4])]}
		s = s[5+int(s[4]):]
		if !modelLabel(x.name) || int(x.inode) >= inodes {
			return nil, false
		}
		if len(l) > 0 && strings.Compare(l[len(l)-1].name, x.name) >= 0 {
			return nil, false
		}
		l = append(l, x)
	}
	return l, true
}

// modelSums are the bytes that the digests' blocks of an image must have.
func modelSums(image string, h head) string {
	var l []string
	own := h.ofSums()
	for n := range len(image) / 1024 {
		if n == 0 || slices.Contains(own, n) {
			l = append(l, full(0, 32))
		} else {
			l = append(l, sha(at(image, uint32(n))))
		}
	}
	return padded(strings.Join(l, ""))
}

// modelNodes: the nodes of an image, if it is right.
func modelNodes(image string) ([]api.Node, bool) {
	if len(image) == 0 || len(image)%1024 != 0 {
		return nil, false
	}
	h, is := modelHead(image[:1024])
	if !is || int(h.blocks)*1024 != len(image) {
		return nil, false
	}
	sums := image[h.sums*1024:][:1024*len(h.ofSums())]
	if sums != modelSums(image, h) || sha(sums) != h.digest {
		return nil, false
	}
	table := image[h.table*1024:][:1024*len(h.ofTable())]
	if strings.Trim(table[h.inodes*64:], "\x00") != "" {
		return nil, false
	}
	held := map[int]int{0: 1}
	for _, n := range h.own() {
		held[n]++
	}
	var inodes []api.Inode
	var data []string
	for k := range int(h.inodes) {
		i, l, is := modelInode(table[64*k:64*k+64], h.blocks)
		if !is {
			return nil, false
		}
		s := ""
		for _, n := range l {
			held[n]++
			s += at(image, uint32(n))
		}
		if strings.Trim(s[i.Size:], "\x00") != "" {
			return nil, false
		}
		inodes, data = append(inodes, i), append(data, s[:i.Size])
	}
	for _, n := range held {
		if n > 1 {
			return nil, false
		}
	}
	return modelTree(inodes, data)
}

// modelTree: the nodes, if each inode is reached once, level by level.
func modelTree(inodes []api.Inode, data []string) ([]api.Node, bool) {
	if inodes[0].Kind != 2 {
		return nil, false
	}
	in := make([]int, len(inodes))
	dirs := map[uint32][]entry{}
	for k, i := range inodes {
		if i.Kind != 2 {
			continue
		}
		l, is := modelEntries(data[k], len(inodes))
		if !is {
			return nil, false
		}
		dirs[uint32(k)] = l
		for _, x := range l {
			in[x.inode]++
		}
	}
	for k, n := range in {
		if k == 0 && n != 0 || k > 0 && n != 1 {
			return nil, false
		}
	}
	type spot struct {
		inode uint32
		path  string
	}
	var nodes []api.Node
	level := []spot{{0, ""}}
	for range 16 {
		var below []spot
		for _, d := range level {
			for _, x := range dirs[d.inode] {
				n := api.Node{Path: d.path + "/" + x.name, Dir: inodes[x.inode].Kind == 2}
				if !n.Dir {
					n.Data = data[x.inode]
				}
				nodes = append(nodes, n)
				below = append(below, spot{x.inode, n.Path})
			}
		}
		level = below
	}
	if len(nodes) != len(inodes)-1 {
		return nil, false
	}
	slices.SortFunc(nodes, func(a, b api.Node) int {
		return slices.Compare(strings.Split(a.Path, "/"), strings.Split(b.Path, "/"))
	})
	return nodes, true
}

// modelOrder: all of these nodes that are below a path, in order.
func modelOrder(l []api.Node, path string) []api.Node {
	var has []api.Node
	for _, n := range l {
		if n.Path != "/" && n.Path[:strings.LastIndex(n.Path, "/")] == path {
			has = append(has, n)
		}
	}
	slices.SortStableFunc(has, func(a, b api.Node) int { return strings.Compare(a.Path, b.Path) })
	var all []api.Node
	for k, n := range has {
		if k > 0 && has[k-1].Path == n.Path {
			continue
		}
		all = append(all, n)
		if n.Dir {
			all = append(all, modelOrder(l, n.Path)...)
		}
	}
	return all
}

// modelBuild: the image of nodes, or what is wrong.
func modelBuild(l []api.Node) (string, api.Errno) {
	if len(l) > 1023 {
		return "", api.ErrTree
	}
	for _, n := range l {
		if !modelPath(n.Path) || n.Dir && n.Data != "" {
			return "", api.ErrTree
		}
	}
	if !slices.Equal(modelOrder(l, ""), l) {
		return "", api.ErrTree
	}
	inodes, data := "", ""
	texts := []string{modelDir(l, "")}
	for _, n := range l {
		texts = append(texts, n.Data)
		if n.Dir {
			texts[len(texts)-1] = modelDir(l, n.Path)
		}
	}
	all := 1 + blocks(64*len(texts))
	for _, s := range texts {
		all += blocks(len(s))
	}
	sums := 0
	for sums < blocks(32*(all+sums)) {
		sums++
	}
	if all+sums > 65536 {
		return "", api.ErrFull
	}
	next := 1 + sums + blocks(64*len(texts))
	for k, s := range texts {
		kind := uint32(2)
		if k > 0 && !l[k-1].Dir {
			kind = 1
		}
		n := blocks(len(s))
		if n == 0 {
			inodes += le(kind, 0) + full(0, 56)
			continue
		}
		inodes += le(kind+1<<16, uint32(len(s)), uint32(next), uint32(n)) + full(0, 48)
		data += padded(s)
		next += n
	}
	rest := padded(inodes) + data
	b := []byte("pharos1\x0a" + le(uint32(all+sums), uint32(len(texts)), 1, uint32(1+sums)) + full(0, 1000) + full(0, 1024*sums) + rest)
	seal(b)
	return string(b), api.OK
}

// modelDir: the entries of a directory. Inodes are told by the nodes' order.
func modelDir(l []api.Node, path string) string {
	s := ""
	for k, n := range l {
		cut := strings.LastIndex(n.Path, "/")
		if n.Path[:cut] == path {
			s += le(uint32(k+1)) + string([]byte{byte(len(n.Path) - cut - 1)}) + n.Path[cut+1:]
		}
	}
	return s
}

// seal makes all digests of an image right, as far as it tells where they stand.
func seal(b []byte) {
	h := head{u32(string(b), 8), u32(string(b), 12), u32(string(b), 16), u32(string(b), 20), ""}
	if n := len(b) / 1024; int(h.blocks) <= n && int(h.sums)+blocks(32*int(h.blocks)) <= n {
		sums := modelSums(string(b), h)
		copy(b[h.sums*1024:], sums[:1024*len(h.ofSums())])
		copy(b[24:56], sha(sums[:1024*len(h.ofSums())]))
	}
	copy(b[56:88], sha(string(b[:56])))
}
