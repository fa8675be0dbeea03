package control

import (
	"icehouse/api"
	"icehouse/num"
	"icehouse/ring"
)

// state is what the authority must not forget.
type state struct {
	at  *ring.Ring // the epoch and its members
	top int64      // the greatest number of a change that was ever begun
}

// text is the epoch, the top and the members, one behind the other.
func (s state) text() []byte {
	out := num.Put(nil, s.at.Epoch(), s.top)
	for _, node := range s.at.Nodes() {
		out = num.Put(out, int64(node))
	}
	return out
}

// parse reads what text wrote; false: it is no state's.
func parse(text []byte) (state, bool) {
	var epoch, top int64
	n, err := num.All(text, &epoch, &top)
	if err != api.OK || top < epoch || top > api.MaxNum {
		return state{}, false
	}
	var nodes []int
	for rest := text[n:]; len(rest) > 0; {
		node, n, err := num.Get(rest)
		if err != api.OK {
			return state{}, false
		}
		nodes = append(nodes, int(node))
		rest = rest[n:]
	}
	at := ring.New(epoch, nodes...)
	return state{at: at, top: top}, at != nil
}
