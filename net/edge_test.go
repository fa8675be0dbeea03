package net

import (
	"testing"

	"icehouse/api"
)

// What has gone is not kept, nor what was lost: the room behind what is on its way is empty.
func TestKeepsNothing(t *testing.T) {
	m := api.Msg{Kind: 5, From: 1, To: 2, Items: []api.Item{{Key: "a"}}}
	n := New()
	check := func(how string) {
		t.Helper()
		for i, b := range n.way[n.Len():cap(n.way)] {
			if b != nil {
				t.Errorf("behind %s the room %d behind the last one is not empty", how, i)
			}
		}
	}
	for range 2 * api.MaxNet {
		n.Send(m, api.Msg{})
	}
	check("Send")
	for _, i := range []int{0, 150, 297, 0} {
		n.Take(i)
		check("Take")
		n.Drop(i / 2)
		check("Drop")
	}
	for range api.MaxNet {
		n.Drop(n.Len() - 1)
		check("Drop of the last one")
	}
	n.Send(m)
	check("Send behind Drop")
}
