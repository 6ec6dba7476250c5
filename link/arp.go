package link

import (
	"strings"

	"pharos/api"
)

// Where the parts of an ARP stand, behind what each begins with.
const (
	opAt       = 6
	fromAt     = opAt + 2
	fromAddrAt = fromAt + macSize
	toAt       = fromAddrAt + 4
	toAddrAt   = toAt + macSize
	arpSize    = toAddrAt + 4
)

// arpHead is what every ARP begins with: it is of Ethernet (1) and IPv4 (0800 hexadecimal), whose addresses have 6 and 4 bytes.
var arpHead = [opAt]byte{0, 1, 8, 0, 6, 4}

// EncodeArp is the bytes of an ARP.
func EncodeArp(a api.Arp) (string, api.Errno) {
	if !isArp(a) {
		return "", api.ErrArg
	}
	head := arpHead
	return string(head[:]) + numbers(2, uint32(a.Op)) +
		a.From + numbers(4, a.FromAddr) +
		a.To + numbers(4, a.ToAddr), api.OK
}

// DecodeArp is the ARP that bytes begin with: a frame is filled up behind it.
func DecodeArp(s string) (api.Arp, api.Errno) {
	if len(s) < arpSize {
		return api.Arp{}, api.ErrShort
	}
	var head [opAt]byte
	copy(head[:], s)
	a := api.Arp{
		Op:       uint16(number(s[opAt:fromAt])),
		From:     strings.Clone(s[fromAt:fromAddrAt]),
		FromAddr: number(s[fromAddrAt:toAt]),
		To:       strings.Clone(s[toAt:toAddrAt]),
		ToAddr:   number(s[toAddrAt:arpSize]),
	}
	if head != arpHead || !isArp(a) {
		return api.Arp{}, api.ErrForm
	}
	return a, api.OK
}

// isArp tells whether an ARP has bytes.
func isArp(a api.Arp) bool {
	return (a.Op == api.ArpAsk || a.Op == api.ArpAnswer) && isMac(a.From) && isMac(a.To)
}
