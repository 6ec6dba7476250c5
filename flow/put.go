package flow

import "pharos/api"

// Put takes bytes that stand from seq on, and the end behind them, if fin: whether the next number is another one now.
func (q *Queue) Put(seq uint32, data string, fin bool) bool {
	if q.none() || q.ended || len(data) > api.MaxWindow {
		return false
	}
	before := q.next
	q.hold(seq, data)
	if fin {
		q.finish(seq + uint32(len(data)))
	}
	q.advance()
	return q.next != before
}

// hold keeps the bytes for which there is room, of each number the first one that came.
func (q *Queue) hold(seq uint32, data string) {
	room := q.room()
	for k := range len(data) {
		x := seq + uint32(k)
		if _, had := q.held[x]; !had && In(x, q.next, room) {
			q.held[x] = data[k]
		}
	}
}

// room is how many numbers, of the next one on, may have bytes. Up to the end there always is room: it was told within the window, whose far edge never moves back.
func (q *Queue) room() uint32 {
	if q.told {
		return q.end - q.next
	}
	return uint32(q.Window())
}

// finish puts the end where it is told to be, if it may be there: it takes no room, so that it may stand right behind the window, but it never moves, nor cuts off bytes that came.
func (q *Queue) finish(end uint32) {
	if q.told || !In(end, q.next, uint32(q.Window())+1) || q.reaches(end) {
		return
	}
	q.end, q.told = end, true
}

// reaches tells whether a byte is held at a number or behind it.
func (q *Queue) reaches(end uint32) bool {
	for x := range q.held {
		if !Less(x, end) {
			return true
		}
	}
	return false
}

// advance makes ready what is held without a gap, and ends the queue, if that goes up to the end, which has a number of its own.
func (q *Queue) advance() {
	for b, is := q.held[q.next]; is; b, is = q.held[q.next] {
		delete(q.held, q.next)
		q.ready = append(q.ready, b)
		q.next++
	}
	if q.told && q.next == q.end {
		q.ended = true
		q.next++
	}
}
