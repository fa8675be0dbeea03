package super

import (
	"bytes"

	"icehouse/api"
	"icehouse/crc"
	"icehouse/num"
)

const (
	maxText = 40
	sumSize = 4
	sumAt   = api.Sector - sumSize
)

// record is what a sector says: a text, and its turn; 0: nothing.
type record struct {
	turn int64
	text string
}

// sector has the turn, the text, 0 as far as the sum, and the sum at its end.
func (r record) sector() []byte {
	b := make([]byte, api.Sector)
	copy(b, num.PutText(num.Put(nil, r.turn), r.text))
	copy(b[sumAt:], sum(b))
	return b
}

// parse answers the zero record if the sector is not whole.
func parse(sector []byte) record {
	if !bytes.Equal(sector[sumAt:], sum(sector)) {
		return record{}
	}
	turn, n, err := num.Get(sector)
	// No Save comes as far as MaxNum: a turn beyond it is not one of ours, and the one behind it might wrap.
	if err != api.OK || turn < 1 || turn > api.MaxNum {
		return record{}
	}
	text, _, err := num.GetText(sector[n:])
	if err != api.OK || len(text) > maxText {
		return record{}
	}
	return record{turn: turn, text: text}
}

// sum counts the room behind the text too, so that no byte of a sector changes unseen.
func sum(sector []byte) []byte {
	s := crc.Sum(sector[:sumAt])
	return []byte{byte(s), byte(s >> 8), byte(s >> 16), byte(s >> 24)}
}
