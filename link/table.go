package link

import (
	"cmp"
	"slices"
	"strings"

	"pharos/api"
)

// Table is who is near.
type Table struct {
	mac  string
	addr uint32
	most int // at least 1, if New made it
	life uint64
	rows []api.Near // by rising addresses, no two of one
}

// New makes a table in which nobody is near.
func New(mac string, addr uint32, most int, life uint64) (*Table, api.Errno) {
	if !Alone(mac) || !AloneAddr(addr) || most < 1 || most > api.MaxNear || life < 1 || life > api.MaxLife {
		return nil, api.ErrArg
	}
	return &Table{mac: strings.Clone(mac), addr: addr, most: most, life: life}, api.OK
}

// none tells a nil Table, and one that New did not make.
func (t *Table) none() bool { return t == nil || t.most == 0 }

// pass lets those go whose time is not above now: false, if there is no such time.
func (t *Table) pass(now uint64) bool {
	if now >= api.MaxClock {
		return false
	}
	t.rows = slices.DeleteFunc(t.rows, func(n api.Near) bool { return n.Until <= now })
	return true
}

// find is the place of an address in the rows, or where it would stand, and whether it is near.
func (t *Table) find(addr uint32) (int, bool) {
	return slices.BinarySearchFunc(t.rows, addr, byAddr)
}

func byAddr(n api.Near, addr uint32) int { return cmp.Compare(n.Addr, addr) }

// other tells whether these may be another one's.
func (t *Table) other(addr uint32, mac string) bool {
	return AloneAddr(addr) && Alone(mac) && addr != t.addr
}

// keep lets an address be near from now on; one that is new, only if there is room.
func (t *Table) keep(addr uint32, mac string, now uint64) api.Errno {
	n := api.Near{Addr: addr, Mac: strings.Clone(mac), Until: now + t.life}
	k, near := t.find(addr)
	if near {
		t.rows[k] = n
		return api.OK
	}
	if len(t.rows) >= t.most {
		return api.ErrFull
	}
	t.rows = slices.Insert(t.rows, k, n)
	return api.OK
}

// Learn takes in that an address is near, and which card it has.
func (t *Table) Learn(addr uint32, mac string, now uint64) api.Errno {
	if t.none() {
		return api.ErrNil
	}
	if !t.pass(now) || !t.other(addr, mac) {
		return api.ErrArg
	}
	return t.keep(addr, mac, now)
}

// Take takes in an ARP: the answer to it, if there is one.
func (t *Table) Take(a api.Arp, now uint64) (api.Arp, bool, api.Errno) {
	if t.none() {
		return api.Arp{}, false, api.ErrNil
	}
	if !t.pass(now) || !isArp(a) || !t.other(a.FromAddr, a.From) {
		return api.Arp{}, false, api.ErrArg
	}
	own := a.ToAddr == t.addr
	if _, near := t.find(a.FromAddr); own || near {
		t.keep(a.FromAddr, a.From, now) // whoever asks is answered, even where there is no room to keep it
	}
	if !own || a.Op != api.ArpAsk {
		return api.Arp{}, false, api.OK
	}
	return t.say(api.ArpAnswer, strings.Clone(a.From), a.FromAddr), true, api.OK
}

// say is an ARP from its own card.
func (t *Table) say(op uint16, to string, addr uint32) api.Arp {
	return api.Arp{Op: op, From: t.mac, FromAddr: t.addr, To: to, ToAddr: addr}
}

// Lookup is the card's address of one who is near.
func (t *Table) Lookup(addr uint32, now uint64) (string, api.Errno) {
	if t.none() {
		return "", api.ErrNil
	}
	if !t.pass(now) {
		return "", api.ErrArg
	}
	k, near := t.find(addr)
	if !near {
		return "", api.ErrNone
	}
	return t.rows[k].Mac, api.OK
}

// Ask is the question who has an address.
func (t *Table) Ask(addr uint32) api.Arp {
	if t.none() {
		return api.Arp{}
	}
	return t.say(api.ArpAsk, zeroMac, addr)
}

// Near is all who are near, by rising addresses. Of a time that may not be it tells them as they are.
func (t *Table) Near(now uint64) []api.Near {
	if t.none() {
		return nil
	}
	t.pass(now)
	return slices.Clone(t.rows)
}
