package node

import (
	"icehouse/api"
	"icehouse/mix"
	"icehouse/move"
	"icehouse/plan"
	"icehouse/store"
)

// moves are a change's parts that go from this node and that come to it, with the node's ends of them.
type moves struct {
	epoch  int64 // that the change brings
	leaves []api.Move
	outs   [api.MaxNodes + 1]*move.Out // by Dst; nil: nothing goes there
	ins    [api.MaxNodes + 1]*move.In  // by Src; nil: nothing comes from there
}

func newMoves(s *store.Store, epoch int64, id int, parts []api.Move) *moves {
	v := &moves{epoch: epoch, leaves: plan.From(parts, id)}
	comes := plan.To(parts, id)
	for node := range v.outs {
		if l := plan.To(v.leaves, node); len(l) > 0 {
			v.outs[node] = move.Send(s, epoch, id, node, l...)
		}
		if l := plan.From(comes, node); len(l) > 0 {
			v.ins[node] = move.Take(s, epoch, node, id, l...)
		}
	}
	return v
}

// takesAway tells whether the key goes from this node.
func (v *moves) takesAway(key string) bool { return covers(v.leaves, key) }

// next is what the others have not, by Dst rising. Of nil moves: nothing.
func (v *moves) next() []api.Msg {
	if v == nil {
		return nil
	}
	var out []api.Msg
	for _, o := range v.outs {
		out = append(out, o.Next()...)
	}
	return out
}

func (v *moves) freeze() {
	for _, o := range v.outs {
		o.Freeze()
	}
}

// all tells whether all that goes from this node is so far.
func (v *moves) all(far func(*move.Out) bool) bool {
	for _, o := range v.outs {
		if o != nil && !far(o) {
			return false
		}
	}
	return true
}

// covers tells whether one of the parts has the key.
func covers(parts []api.Move, key string) bool {
	_, ok := plan.Covers(parts, mix.Of(key))
	return ok
}
