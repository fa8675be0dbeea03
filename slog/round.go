package slog

import (
	"slices"

	"icehouse/api"
	"icehouse/frame"
)

// find puts Next above whatever any sector tells, be its segment whole or not: a number that comes again could make what is left of an elder segment a part of a later one.
func (l *Log) find() {
	slot, head, top := 0, int64(-1), int64(-1)
	for i := range l.segs {
		for k := range api.SegLen {
			n, _, ok := l.load(i, k)
			if !ok {
				continue
			}
			top = max(top, n)
			if k == 0 && n > head {
				slot, head = i, n
			}
		}
	}
	if top >= 0 {
		l.next = top/api.SegLen + most
	}
	if head >= 0 {
		l.collect(slot)
	}
}

// collect goes back from the latest segment as far as they follow on each other: behind a hole there could be what later records took back.
func (l *Log) collect(slot int) {
	l.slot = slot
	first := l.next
	for i := range l.segs {
		s, ok := l.segment(slot)
		if !ok || s.next() > first {
			break
		}
		first = s.first
		if s.count() > 0 {
			l.kept = append(l.kept, s)
		}
		// The latest segment is begun again, if it lost all its records: else one crash behind the other would let records go, and bring none.
		if i == 0 && s.count() > 0 {
			l.slot = l.behind(slot)
		}
		slot = (slot + l.segs - 1) % l.segs
	}
	slices.Reverse(l.kept)
}

// segment finds the one that lies in the slot; false: there is none.
func (l *Log) segment(slot int) (segment, bool) {
	n, _, ok := l.load(slot, 0)
	if !ok {
		return segment{}, false
	}
	s := segment{slot: slot, first: n / api.SegLen}
	return parse(slot, s.first, l.stream(s, 0, api.SegLen)), true
}

// begin starts the next segment, in the place of the eldest one. That it was begun lasts ahead of its first record.
func (l *Log) begin() api.Errno {
	s := segment{slot: l.slot, first: l.next}
	if err := l.lay(s, 0, ""); err != api.OK {
		return err
	}
	if err := l.d.Flush(); err != api.OK {
		return err
	}
	l.kept = slices.DeleteFunc(l.kept, func(x segment) bool { return x.slot == s.slot })
	l.kept = append(l.kept, s)
	l.slot = l.behind(s.slot)
	l.left = size
	l.tail = nil
	return api.OK
}

// extend lays a record behind those of the latest segment.
func (l *Log) extend(record []byte) api.Errno {
	s := &l.kept[len(l.kept)-1]
	texts := slices.Concat(l.tail, record)
	k := s.end() / room
	for text := range slices.Chunk(texts, room) {
		if err := l.lay(*s, k, string(text)); err != api.OK {
			return err
		}
		k++
	}
	l.tail = texts[len(texts)-len(texts)%room:]
	l.left -= len(record)
	s.ends = append(s.ends, s.end()+len(record))
	return api.OK
}

// body reads the i-th record of a segment, and no more sectors than it lies in.
func (l *Log) body(s segment, i int) ([]byte, bool) {
	from, to := s.start(i), s.start(i+1)
	k := from / room
	return cut(l.stream(s, k, (to-1)/room+1), from-k*room, to-k*room)
}

// bodies reads all records of a segment that are there.
func (l *Log) bodies(s segment) []Rec {
	var out []Rec
	stream := l.stream(s, 0, api.SegLen)
	for i := range s.count() {
		if body, ok := cut(stream, s.start(i), s.start(i+1)); ok {
			out = append(out, Rec{Pos: s.first + int64(i), Body: body})
		}
	}
	return out
}

// stream is what a segment's sectors hold from the k-th one on, ahead of the end-th. Behind one that is not full nothing counts: a crash has lost what was between.
func (l *Log) stream(s segment, k, end int) []byte {
	var out []byte
	for ; k < end; k++ {
		n, text, ok := l.load(s.slot, k)
		if !ok || n != s.number(k) {
			break
		}
		out = append(out, text...)
		if len(text) < room {
			break
		}
	}
	return out
}

// load answers the number and the text of a slot's k-th sector; false: it is not whole, or no log's.
func (l *Log) load(slot, k int) (int64, string, bool) {
	sector, err := l.d.Read(l.place(slot, k))
	if err != api.OK {
		return 0, "", false
	}
	n, text, err := frame.Parse(kind, sector)
	if err != api.OK || n < api.SegLen || n >= numbers || n%api.SegLen != int64(k) || len(text) > room {
		return 0, "", false
	}
	return n, text, true
}

func (l *Log) lay(s segment, k int, text string) api.Errno {
	sector, err := frame.Make(kind, s.number(k), text)
	if err != api.OK {
		return err
	}
	return l.d.Write(l.place(s.slot, k), sector)
}

func (l *Log) place(slot, k int) int { return l.from + slot*api.SegLen + k }

func (l *Log) behind(slot int) int { return (slot + 1) % l.segs }
