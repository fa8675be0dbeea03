package node

import (
	"icehouse/api"
	"icehouse/move"
	"icehouse/plan"
	"icehouse/ring"
)

// grant hears that the node may serve for a while.
func (n *Node) grant(out *Out, m api.Msg) {
	epoch := n.Meta().Epoch
	if len(m.Members) == 0 || m.Epoch < epoch {
		return
	}
	if m.Epoch > epoch {
		if !n.adopt(out, m.Epoch, m.Members) {
			return
		}
	} else if n.Ring() == nil {
		n.learn(m.Members)
	}
	n.Take(m.Tick, m.Epoch)
}

// commit hears who belongs from now on.
func (n *Node) commit(out *Out, m api.Msg) {
	if len(m.Members) > 0 && m.Epoch > n.Meta().Epoch {
		n.adopt(out, m.Epoch, m.Members)
	}
}

// adopt makes an epoch the node's that is above its own; false: that does not last.
func (n *Node) adopt(out *Out, epoch int64, members []int) bool {
	m := n.Meta()
	// Who has not prepared the epoch does not know what was made invalid on the way to it. A crash behind the Wipe costs entries; one behind the Meta alone would let them count as the epoch's.
	if epoch != m.Ready && n.Wipe() != api.OK {
		return false
	}
	m.Epoch, m.Ready, m.Frozen = epoch, 0, false
	if n.Save(m) != api.OK {
		return false
	}
	n.told = ring.New(epoch, members...)
	n.Lease.Drop()
	// They are killed, but not made anew: their numbers must not be given again while reads wait with them.
	n.tokens.Clear()
	n.moves = nil
	n.refuseFar(out, len(n.far), api.ErrBusy)
	return n.dropOthers()
}

// learn makes the members those of the node's epoch. While something is prepared, the keys that others have by that ring may be some that came for the next one.
func (n *Node) learn(members []int) {
	m := n.Meta()
	n.told = ring.New(m.Epoch, members...)
	// The epoch 0 has no ring: by it nothing is anybody's.
	if n.Ring() != nil && m.Ready == 0 {
		n.dropOthers()
	}
}

// prepare hears of a change that is to come: to prepare it, or, behind that, to freeze what goes.
func (n *Node) prepare(out *Out, m api.Msg) {
	if !n.mayPrepare(m) || m.Base > n.Meta().Epoch && !n.adopt(out, m.Base, m.Old) {
		return
	}
	parts := plan.Of(ring.New(m.Base, m.Old...), ring.New(m.Epoch, m.Members...))
	if m.Epoch > n.Meta().Ready && !n.ready(m.Epoch, plan.To(parts, n.id)) {
		return
	}
	known := n.moving() != nil
	if !known {
		n.moves = newMoves(n.Store, m.Epoch, n.id, parts)
	}
	if m.Kind == api.MFreeze && !n.freeze() {
		return
	}
	if !known {
		out.say(n.moves.next()...)
	}
	if m.Kind == api.MFreeze {
		n.sayFrozen(out)
	} else {
		n.sayPrepared(out, n.moves.all((*move.Out).Sent))
	}
}

// mayPrepare tells whether the change that m asks for is one that is still to come, from where the node is or beyond.
func (n *Node) mayPrepare(m api.Msg) bool {
	is := n.Meta()
	return m.Epoch > is.Epoch && m.Epoch >= is.Ready &&
		m.Base >= is.Epoch && m.Base < m.Epoch &&
		len(m.Old) > 0 && len(m.Members) > 0
}

// ready begins to prepare the epoch, in which the parts come to the node; false: that does not last.
func (n *Node) ready(epoch int64, comes []api.Move) bool {
	if n.Meta().Ready != 0 && !n.giveUp() {
		return false
	}
	// What the node has of these keys is of an elder time: behind the Meta's Ready it would be as what came for the epoch.
	if !n.dropAll(func(key string) bool { return covers(comes, key) }) {
		return false
	}
	m := n.Meta()
	m.Ready, m.Frozen = epoch, false
	return n.Save(m) == api.OK
}

// freeze stops serving what goes; false: that does not last.
func (n *Node) freeze() bool {
	m := n.Meta()
	m.Frozen = true
	if n.Save(m) != api.OK {
		return false
	}
	n.tokens.Clear()
	n.moves.freeze()
	return true
}

// abort hears that a change is given up.
func (n *Node) abort(m api.Msg) {
	if n.prepares(m.Epoch) {
		n.giveUp()
	}
}

// giveUp gives up what is prepared; false: that does not last.
func (n *Node) giveUp() bool {
	m := n.Meta()
	m.Ready, m.Frozen = 0, false
	if n.Save(m) != api.OK {
		return false
	}
	n.moves = nil
	return n.Ring() == nil || n.dropOthers()
}

// takeIn hears of keys that come to the node.
func (n *Node) takeIn(out *Out, m api.Msg) {
	if v := n.moving(); v != nil && m.Epoch == v.epoch {
		out.say(v.ins[m.From].Step(m)...)
	}
}

// sendOn hears how much another node has of what goes there.
func (n *Node) sendOn(out *Out, m api.Msg) {
	v := n.moving()
	if v == nil || m.Epoch != v.epoch || v.outs[m.From] == nil {
		return
	}
	out.say(v.outs[m.From].Step(m)...)
	if n.Meta().Frozen {
		n.sayFrozen(out)
	} else if v.all((*move.Out).Sent) {
		n.sayPrepared(out, true)
	}
}

// sayPrepared says that the change is prepared here, and whether all entries that go are sent.
func (n *Node) sayPrepared(out *Out, sent bool) {
	out.say(api.Msg{Kind: api.MPrepared, From: n.id, To: authority, Epoch: n.moves.epoch, Last: sent})
}

// sayFrozen says that the change may come, if nothing is lacking for it here.
func (n *Node) sayFrozen(out *Out) {
	if n.moves.all((*move.Out).Done) {
		out.say(api.Msg{Kind: api.MFrozen, From: n.id, To: authority, Epoch: n.moves.epoch})
	}
}

// prepares tells whether the epoch is what the node has prepared.
func (n *Node) prepares(epoch int64) bool { return epoch != 0 && epoch == n.Meta().Ready }

// moving are the moves of what is prepared; nil: nothing is, or the node does not know them.
func (n *Node) moving() *moves {
	if n.moves == nil || !n.prepares(n.moves.epoch) {
		return nil
	}
	return n.moves
}

// dropOthers drops the keys that the ring gives to other nodes; false: that does not last.
func (n *Node) dropOthers() bool {
	return n.dropAll(func(key string) bool { return !n.owns(key) })
}

func (n *Node) dropAll(unwanted func(key string) bool) bool {
	var keys []string
	for _, key := range n.Keys() {
		if unwanted(key) {
			keys = append(keys, key)
		}
	}
	return len(keys) == 0 || n.Cache.Drop(keys...) == api.OK
}
