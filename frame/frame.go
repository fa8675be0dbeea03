// Package frame lays a number and a short text on a sector, so that the sector tells whether it is whole.
// A layer that uses it has a kind of its own: a sector of another kind is not whole to it.
package frame

import (
	"bytes"

	"icehouse/api"
	"icehouse/crc"
	"icehouse/num"
)

const (
	sumSize = 4
	sumAt   = api.Sector - sumSize
)

// Make answers a sector that has the number, the text, 0 as far as the sum, and the sum at its end; ErrForm: they don't fit.
func Make(kind byte, n int64, text string) ([]byte, api.Errno) {
	body := num.PutText(num.Put(nil, n), text)
	if len(body) > sumAt {
		return nil, api.ErrForm
	}
	sector := make([]byte, api.Sector)
	copy(sector, body)
	copy(sector[sumAt:], sum(kind, sector))
	return sector, api.OK
}

// Parse answers what Make was given; ErrCorrupt: the sector is not whole, or not of this kind.
func Parse(kind byte, sector []byte) (int64, string, api.Errno) {
	if len(sector) != api.Sector || !bytes.Equal(sector[sumAt:], sum(kind, sector)) {
		return 0, "", api.ErrCorrupt
	}
	n, k, err := num.Get(sector[:sumAt])
	if err != api.OK {
		return 0, "", api.ErrCorrupt
	}
	text, _, err := num.GetText(sector[k:sumAt])
	if err != api.OK {
		return 0, "", api.ErrCorrupt
	}
	return n, text, api.OK
}

// sum counts the room behind the text too, so that no byte of a sector changes unseen; and the kind, which so takes no room.
func sum(kind byte, sector []byte) []byte {
	s := crc.Sum([]byte{kind}, sector[:sumAt])
	return []byte{byte(s), byte(s >> 8), byte(s >> 16), byte(s >> 24)}
}
