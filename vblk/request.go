package vblk

import (
	"cmp"
	"maps"
	"slices"

	"pharos/api"
)

// Where the parts of a request stand in its buffer.
const (
	sectorAt    = 8
	dataAt      = 16
	statusAt    = dataAt + api.BlockSize
	requestSize = statusAt + 1
)

// What the device writes of a request.
const (
	writtenSize = requestSize - dataAt
	statusNone  = "\xff" // what the driver writes: no device answers so
	statusOK    = "\x00"
)

// request is one that waits: its number, which block it asks for, and where its buffer stands.
type request struct{ id, block, at uint32 }

// must tells by a panic that the disk has failed, unless all is as it must be.
func must(ok bool) {
	if !ok {
		panic(api.ErrFailed)
	}
}

// heed does a piece of work, and tells whether it came to its end. A panic goes no further, whatever it was: a disk in whose work something went wrong has failed.
func (d *Disk) heed(work func()) (ended bool) {
	defer func() {
		if recover() != nil {
			d.failed = true
		}
	}()
	work()
	return true
}

// ask hands the device a request for a block, if there is room.
func (d *Disk) ask(block uint32) (id uint32, e api.Errno) {
	at, e := d.pool.Get()
	if e != api.OK {
		return 0, e
	}
	if !d.heed(func() { id, e = d.hand(request{d.last + 1, block, at}) }) {
		return 0, api.ErrFailed
	}
	return id, e
}

// hand writes a request into its buffer, and hands that out; one that the ring has no room for leaves its buffer free.
func (d *Disk) hand(q request) (uint32, api.Errno) {
	must(d.m.Put64(q.at, 0) == api.OK) // what is to be done, and nothing, in four bytes each: to read is 0
	must(d.m.Put64(q.at+sectorAt, api.Sectors*uint64(q.block)) == api.OK)
	must(d.m.Write(q.at+statusAt, statusNone) == api.OK)
	chain, e := d.ring.Add([]api.Buf{
		{At: q.at, Len: dataAt},
		{At: q.at + dataAt, Len: api.BlockSize, In: true},
		{At: q.at + statusAt, Len: requestSize - statusAt, In: true},
	})
	if e == api.ErrFull {
		d.pool.Put(q.at)
		return 0, e
	}
	must(e == api.OK)
	d.last = q.id
	d.waits[chain] = q
	return q.id, api.OK
}

// collect tells an answer of each chain that the device has used.
func (d *Disk) collect(tell func(api.Block)) {
	for {
		done, is, e := d.ring.Poll()
		must(e == api.OK)
		if !is {
			return
		}
		if q, mine := d.waits[done.Head]; mine { // a chain that somebody else Added to the ring is passed over
			delete(d.waits, done.Head)
			d.answer(q, done.Len, tell)
		}
	}
}

// answer tells the answer to a request of which the device says that it wrote n bytes. That is told even if what stands there makes the disk fail: hence it is deferred.
func (d *Disk) answer(q request, n uint32, tell func(api.Block)) {
	b := api.Block{ID: q.id, Block: q.block, Err: api.ErrIO}
	defer func() {
		d.pool.Put(q.at)
		tell(b)
	}()
	b.Data = d.data(q, n)
	b.Err = api.OK
}

// data is the bytes that the device brought: all of them, and the word that they are.
func (d *Disk) data(q request, n uint32) string {
	status, e := d.m.Read(q.at+statusAt, requestSize-statusAt)
	must(e == api.OK && status == statusOK && n == writtenSize)
	s, e := d.m.Read(q.at+dataAt, api.BlockSize)
	must(e == api.OK)
	return s
}

// giveUp answers all requests that wait, by rising numbers: no device will.
func (d *Disk) giveUp(tell func(api.Block)) {
	older := func(a, b request) int { return cmp.Compare(a.id, b.id) }
	for _, q := range slices.SortedFunc(maps.Values(d.waits), older) {
		tell(api.Block{ID: q.id, Block: q.block, Err: api.ErrIO})
	}
	clear(d.waits)
}
