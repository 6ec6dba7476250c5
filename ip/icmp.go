package ip

import "pharos/api"

// What an ICMP is: its first byte.
const (
	kindAnswer uint8 = 0
	kindAway   uint8 = 3
	kindAsk    uint8 = 8
)

const (
	icmpSize = 8  // bytes of an ICMP, at least
	icmpTTL  = 64 // of what is said back
	sumEnd   = 4  // behind the kind, the code and the sum
	quoted   = 8  // bytes of data of a packet that is not taken, by which its sender knows it
)

// Echo is the answer to an ask by ICMP, if it is one.
func Echo(p api.Packet) (api.Packet, bool) {
	if isPiece(p) || !isAsk(p) || len(p.Data) < icmpSize || p.Data[1] != 0 || Sum(p.Data) != 0 {
		return api.Packet{}, false
	}
	return back(p, p.ID, icmp(kindAnswer, 0, p.Data[sumEnd:])), true
}

// Away is what is said to one whose packet is not taken. An ICMP that asks for nothing gets none, lest two tell one another for ever what they do not take.
func Away(p api.Packet, code uint8) (api.Packet, bool) {
	if p.Off != 0 || p.Proto == api.ProtoIcmp && !isAsk(p) {
		return api.Packet{}, false
	}
	p.Data = p.Data[:min(len(p.Data), quoted)]
	return back(p, 0, icmp(kindAway, code, four(0)+bytesOf(p))), true
}

// isAsk tells an ICMP that asks for an answer.
func isAsk(p api.Packet) bool {
	return p.Proto == api.ProtoIcmp && len(p.Data) > 0 && p.Data[0] == kindAsk
}

// back is an ICMP to whom a packet came from.
func back(p api.Packet, id uint16, data string) api.Packet {
	return api.Packet{Src: p.Dst, Dst: p.Src, Proto: api.ProtoIcmp, TTL: icmpTTL, ID: id, Data: data}
}

// icmp is an ICMP's bytes, whose sum is 0.
func icmp(kind, code uint8, rest string) string {
	head := string([]byte{kind, code})
	return head + two(Sum(head+rest)) + rest
}
