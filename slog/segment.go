package slog

import (
	"icehouse/api"
	"icehouse/num"
)

const (
	// kind is that of the frames of slog.
	kind = 'L'
	// numbers is above each number of a frame: one below it takes six bytes at most. Within the Limits a position stays below 2^38, and a number is 8 times that.
	numbers = 1 << 41
	// room is what a frame holds beside such a number, the length of its text and its sum.
	room = 53
	// size is how long a segment's stream may become.
	size = room * api.SegLen
	// most is how many records may be in a segment, be they as short as they may: each takes two bytes, its length and its body.
	most = size / 2
)

// segment is what a Log knows of one. Its sectors hold a stream of bytes, in which its records lie as texts, one behind the other.
// No two segments ever have the same first position: it tells them apart.
type segment struct {
	slot  int
	first int64
	ends  []int // of its records, in the stream
}

// parse reads the records as far as they are whole: a crash may have cut the stream anywhere.
func parse(slot int, first int64, stream []byte) segment {
	s := segment{slot: slot, first: first}
	for at := 0; ; {
		body, n, err := num.GetText(stream[at:])
		if err != api.OK || !fits(len(body)) {
			return s
		}
		at += n
		s.ends = append(s.ends, at)
	}
}

// cut answers the body of the record that lies there in the stream; false: it does not.
func cut(stream []byte, from, to int) ([]byte, bool) {
	if to > len(stream) {
		return nil, false
	}
	body, _, err := num.GetText(stream[from:to])
	if err != api.OK {
		return nil, false
	}
	return []byte(body), true
}

func (s segment) count() int { return len(s.ends) }

// start is where the i-th record begins; or, as many as there are, where the next one will.
func (s segment) start(i int) int {
	if i == 0 {
		return 0
	}
	return s.ends[i-1]
}

// end is how long its stream is.
func (s segment) end() int { return s.start(s.count()) }

// next is the position behind its last record.
func (s segment) next() int64 { return s.first + int64(s.count()) }

// number is that of its k-th sector's frame.
func (s segment) number(k int) int64 { return s.first*api.SegLen + int64(k) }
