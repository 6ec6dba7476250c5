package seg

import "pharos/api"

// What an option is: its first byte.
const (
	kindEnd     uint8 = 0
	kindNothing uint8 = 1
	kindMss     uint8 = 2
	kindScale   uint8 = 3
)

// How many bytes options have, both their kind and their length counted.
const (
	leastSize = 2
	sizeMss   = 4
	sizeScale = 3
)

// mostScale is the highest scale: by a higher one windows would reach to where numbers come round.
const mostScale uint8 = 14

// options is what is told by them.
type options struct {
	mss      uint16
	hasScale bool
	scale    uint8
}

// optionsOf is the bytes of a segment's options, which are a multiple of four.
func optionsOf(g api.Seg) string {
	s := ""
	if g.Mss != 0 {
		s += string([]byte{kindMss, sizeMss}) + two(g.Mss)
	}
	if g.HasScale {
		s += string([]byte{kindNothing, kindScale, sizeScale, g.Scale})
	}
	return s
}

// read is what the options in a head tell.
func read(s string) (options, api.Errno) {
	o := options{}
all:
	for len(s) > 0 {
		switch s[0] {
		case kindEnd: // what is behind it only fills up the head
			break all
		case kindNothing:
			s = s[1:]
		default:
			size, is := sizeOf(s)
			if !is || !o.take(s[:size]) {
				return options{}, api.ErrForm
			}
			s = s[size:]
		}
	}
	return o, api.OK
}

// sizeOf is how many bytes the first option has, if all of them are there.
func sizeOf(s string) (int, bool) {
	if len(s) < leastSize {
		return 0, false
	}
	size := int(s[1])
	return size, size >= leastSize && size <= len(s)
}

// take notes what an option tells; false, if it has not the length that one of its kind has.
func (o *options) take(s string) bool {
	switch s[0] {
	case kindMss:
		if len(s) != sizeMss {
			return false
		}
		o.mss = uint16(number(s[2:]))
	case kindScale:
		if len(s) != sizeScale {
			return false
		}
		o.hasScale, o.scale = true, min(s[2], mostScale)
	}
	return true
}
