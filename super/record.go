package super

import (
	"icehouse/api"
	"icehouse/frame"
)

const (
	maxText = 40
	// kind is that of the frames of super.
	kind = 'S'
)

// record is what a sector says: a text, and its turn; 0: nothing.
type record struct {
	turn int64
	text string
}

// parse answers the zero record if the sector is not whole.
func parse(sector []byte) record {
	turn, text, err := frame.Parse(kind, sector)
	// No Save comes as far as MaxNum: a turn beyond it is not one of ours, and the one behind it might wrap.
	if err != api.OK || turn < 1 || turn > api.MaxNum || len(text) > maxText {
		return record{}
	}
	return record{turn: turn, text: text}
}
