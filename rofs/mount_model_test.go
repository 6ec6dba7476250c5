package rofs_test

import (
	"slices"
	"strings"

	"pharos/api"
)

// modelMount is a mount told as the chapter has it: what it has to do stands in one number, and all blocks that came are kept for ever.
type modelMount struct {
	h      head
	step   int // 0 to 2 what it reads; 3 ready; 4 spoilt
	wants  []int
	came   map[int]string // the last bytes of each
	sums   string
	inodes []api.Inode
	places [][]int // the blocks of each
	known  bool    // the digests
	dirs   [][]entry
}

func newModelMount(block string) (*modelMount, api.Errno) {
	h, is := modelHead(block)
	if !is {
		return nil, api.ErrImage
	}
	return &modelMount{h: h, wants: h.ofSums(), came: map[int]string{}}, api.OK
}

func (o *modelMount) give(block int, data string) api.Errno {
	if o.step == 4 {
		return api.ErrState
	}
	k := slices.Index(o.wants, block)
	if k < 0 || len(data) != 1024 {
		return api.ErrArg
	}
	if d, e := o.sum(block); e == api.OK && d != sha(data) {
		return api.ErrSum
	}
	o.wants = slices.Delete(slices.Clone(o.wants), k, k+1)
	o.came[block] = data
	for len(o.wants) == 0 && o.step < 3 {
		if e := o.goOn(); e != api.OK {
			o.step, o.wants = 4, nil
			return e
		}
		o.step++
	}
	return api.OK
}

func (o *modelMount) text(l []int) string {
	s := ""
	for _, n := range l {
		s += o.came[n]
	}
	return s
}

func (o *modelMount) goOn() api.Errno {
	switch o.step {
	case 0:
		o.sums = o.text(o.h.ofSums())
		if sha(o.sums) != o.h.digest {
			return api.ErrSum
		}
		o.known = true
		o.wants = o.h.ofTable()
	case 1:
		return o.table()
	case 2:
		return o.entries()
	}
	return api.OK
}

func (o *modelMount) table() api.Errno {
	s := o.text(o.h.ofTable())
	for k := range int(o.h.inodes) {
		i, l, is := modelInode(s[64*k:64*k+64], o.h.blocks)
		if !is || k == 0 && i.Kind != 2 {
			return api.ErrImage
		}
		o.inodes, o.places = append(o.inodes, i), append(o.places, l)
		if i.Kind == 2 {
			o.wants = append(o.wants, l...)
		}
	}
	slices.Sort(o.wants)
	o.wants = slices.Compact(o.wants)
	return api.OK
}

func (o *modelMount) entries() api.Errno {
	for k, i := range o.inodes {
		var l []entry
		if i.Kind == 2 {
			var is bool
			if l, is = modelEntries(o.text(o.places[k])[:i.Size], len(o.inodes)); !is {
				return api.ErrImage
			}
		}
		o.dirs = append(o.dirs, l)
	}
	return api.OK
}

func (o *modelMount) sum(block int) (string, api.Errno) {
	if !o.known {
		return "", api.ErrState
	}
	if block == 0 || block >= int(o.h.blocks) || slices.Contains(o.h.ofSums(), block) {
		return "", api.ErrNone
	}
	return o.sums[32*block : 32*block+32], api.OK
}

func (o *modelMount) lookup(path string) (api.Inode, api.Errno) {
	if o.step != 3 {
		return api.Inode{}, api.ErrState
	}
	if !modelPath(path) {
		return api.Inode{}, api.ErrArg
	}
	n := 0
	for _, name := range strings.Split(path, "/") {
		if name == "" {
			continue
		}
		if o.inodes[n].Kind != 2 {
			return api.Inode{}, api.ErrDir
		}
		k := slices.IndexFunc(o.dirs[n], func(x entry) bool { return x.name == name })
		if k < 0 {
			return api.Inode{}, api.ErrNone
		}
		n = int(o.dirs[n][k].inode)
	}
	return o.inodes[n], api.OK
}
