package msg

import (
	"bytes"
	"slices"

	"icehouse/crc"
)

const (
	lenSize  = 2
	sumSize  = 4
	sealSize = lenSize + sumSize
)

// seal puts a body's length and its sum behind it.
// The sum tells that a byte was changed; the length, which lies last for this, that some were cut off or put ahead of the first one, which a sum may not see.
// Of those cut off or put behind the last one the body tells, which knows by itself where it ends.
func seal(body []byte) []byte {
	return slices.Concat(body, sealOf(body))
}

// unseal answers the body that was sealed; false: b is not whole.
func unseal(b []byte) ([]byte, bool) {
	if len(b) < sealSize {
		return nil, false
	}
	body, end := b[:len(b)-sealSize], b[len(b)-sealSize:]
	return body, bytes.Equal(end, sealOf(body))
}

// sealOf has room for the length of each body of a message that may be; a longer body, whose length it cuts, is none.
func sealOf(body []byte) []byte {
	n := len(body)
	s := crc.Sum(body)
	return []byte{byte(n), byte(n >> 8), byte(s), byte(s >> 8), byte(s >> 16), byte(s >> 24)}
}
