package cache

import "slices"

// held is a block that a cache has, and its bytes.
type held struct {
	block uint32
	data  string
}

// use is the bytes of a block, if the cache has it: it is the one that was used last then.
func (c *Cache) use(block uint32) (string, bool) {
	k := slices.IndexFunc(c.held, func(h held) bool { return h.block == block })
	if k < 0 {
		return "", false
	}
	h := c.held[k]
	c.held = append(without(c.held, k), h)
	return h.data, true
}

// keep lets the cache have a block, as the one that was used last. For one that is too many, the one whose use is longest ago goes.
func (c *Cache) keep(h held) {
	c.held = append(c.held, h)
	if len(c.held) > c.most {
		c.held = without(c.held, 0)
	}
}

// without is a list without the one at k. It is cut with three indexes, so that what follows is laid into new memory: behind the old list's end the bytes of a block that went would be kept.
func without(l []held, k int) []held {
	return append(l[:k:k], l[k+1:]...)
}
