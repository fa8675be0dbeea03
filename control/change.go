package control

import (
	"slices"

	"icehouse/api"
	"icehouse/ring"
)

// The phases of a change.
const (
	preparing = iota
	freezing
	committing
)

// change is one that is under way.
type change struct {
	to    *ring.Ring // its epoch is the change's number
	all   []int      // the old and the new members
	lost  int        // nobody: none of them is
	nodes []int      // all but the one that is lost: those that are asked
	phase int
	lacks []int // those whose answer in this phase has not come
}

func newChange(to *ring.Ring, all []int, lost int) *change {
	nodes := without(all, lost)
	return &change{to: to, all: all, lost: lost, nodes: nodes, lacks: slices.Clone(nodes)}
}

// hears tells whether m is an answer for which this phase of the change waits.
func (g *change) hears(m api.Msg) bool {
	if g == nil || m.Epoch != g.to.Epoch() {
		return false
	}
	switch g.phase {
	case preparing:
		return m.Kind == api.MPrepared && m.Last
	case freezing:
		return m.Kind == api.MFrozen
	}
	return false
}

// done notes the node's answer; true: the next phase has begun.
func (g *change) done(node int) bool {
	g.lacks = without(g.lacks, node)
	if len(g.lacks) > 0 {
		return false
	}
	g.phase++
	g.lacks = slices.Clone(g.nodes)
	return true
}

// loses tells whether the node is the one that is lost.
func (g *change) loses(node int) bool { return g != nil && g.lost == node }

// without is a list of its own.
func without(nodes []int, node int) []int {
	return slices.DeleteFunc(slices.Clone(nodes), func(n int) bool { return n == node })
}
