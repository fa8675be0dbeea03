package node

import (
	"cmp"
	"slices"
	"strings"

	"icehouse/api"
)

const (
	client = -1 // who asks is none of the nodes
	// boots is how far the numbers of asks of one start of the node lie from those of the next start.
	boots = 1 << 20
)

// ask is what a client or a node wants of a key.
type ask struct {
	from int   // the node; or client
	id   int64 // by which from knows it
	op   int
	key  string
}

// read is an OGet that waits for the origin.
type read struct {
	ask
	token int64
}

// far is an ask that waits for another node.
type far struct {
	ask
	number int64 // by which that node knows it
	to     int
	since  int64
}

// Ask asks for a key, or makes it invalid.
func (n *Node) Ask(id int64, op int, key string) Out {
	var out Out
	if !n.down() {
		n.hear(&out, ask{from: client, id: id, op: op, key: key})
	}
	return out
}

// Reads are the keys that the origin is to be asked for.
func (n *Node) Reads() []string {
	if n.down() {
		return nil
	}
	var out []string
	for _, r := range n.reads {
		out = append(out, r.key)
	}
	return out
}

// Read hears what the origin has of the i-th of Reads.
func (n *Node) Read(i int, val string, has bool) Out {
	var out Out
	if n.down() || i < 0 || i >= len(n.reads) {
		return out
	}
	r := n.reads[i]
	n.reads = slices.Delete(n.reads, i, i+1)
	// What was read may have been made invalid since, or have become another node's.
	_, good := n.tokens.Use(r.token)
	if good && has && len(val) <= api.MaxVal && n.Serves(r.key) {
		n.fill(r.key, val)
	}
	n.tell(&out, r.ask, api.OK, val, has)
	return out
}

// fill needs no answer: whoever asked is told what was read, whether it is there the next time or not.
func (n *Node) fill(key, val string) {
	if n.Put(api.Item{Key: key, Val: val}) == api.OK {
		n.Flush()
	}
}

// hear takes in an ask, and tells at once what comes of it, or waits.
func (n *Node) hear(out *Out, a ask) {
	if !mayAsk(a) {
		n.refuse(out, a, api.ErrForm)
		return
	}
	r := n.Ring()
	if r == nil {
		n.refuse(out, a, api.ErrBusy)
		return
	}
	switch owner := r.Of(a.key); {
	case owner != n.id:
		n.handOn(out, a, owner)
	case !n.Serves(a.key):
		n.refuse(out, a, api.ErrBusy)
	case a.op == api.OKill:
		n.kill(out, a)
	default:
		n.get(out, a)
	}
}

func mayAsk(a ask) bool {
	return (a.op == api.OGet || a.op == api.OKill) && len(a.key) >= 1 && len(a.key) <= api.MaxKey
}

func (n *Node) get(out *Out, a ask) {
	if x, ok := n.Get(a.key, n.Now()); ok {
		n.tell(out, a, api.OK, x.Val, true)
		return
	}
	n.reads = append(n.reads, read{ask: kept(a), token: n.tokens.Give(a.key)})
}

func (n *Node) kill(out *Out, a ask) {
	// What is being read of the key is not to be put behind this.
	n.tokens.Kill(a.key)
	_, err := n.Store.Kill(a.key)
	n.tell(out, a, err, "", false)
}

// handOn asks the node to which the ring gives the key.
func (n *Node) handOn(out *Out, a ask, to int) {
	n.asked++
	f := far{ask: kept(a), number: n.Started()*boots + n.asked, to: to, since: n.Now()}
	n.far = append(n.far, f)
	out.say(api.Msg{Kind: api.MAsk, From: n.id, To: to, Id: f.number, Op: a.op, Key: a.key, Epoch: n.Meta().Epoch})
}

// kept has a copy of the key: one that is a piece of a long text would keep all of that text.
func kept(a ask) ask {
	a.key = strings.Clone(a.key)
	return a
}

// askedBy hears another node's ask.
func (n *Node) askedBy(out *Out, m api.Msg) {
	a := ask{from: m.From, id: m.Id, op: m.Op, key: m.Key}
	if m.Epoch != n.Meta().Epoch {
		n.refuse(out, a, api.ErrStale)
		return
	}
	n.hear(out, a)
}

// answered hears what came of an ask that was handed on.
func (n *Node) answered(out *Out, m api.Msg) {
	i, ok := slices.BinarySearchFunc(n.far, m.Id, func(f far, id int64) int { return cmp.Compare(f.number, id) })
	if !ok || n.far[i].to != m.From {
		return
	}
	a := n.far[i].ask
	n.far = slices.Delete(n.far, i, i+1)
	err := m.Err
	if err == api.ErrStale {
		// The epoch is not the client's business: it may ask again.
		err = api.ErrBusy
	}
	n.tell(out, a, err, m.Item.Val, m.Item.Key != "" && !m.Item.Gone)
}

// refuseLate waits no longer for the asks that have waited too long: they are the first that were handed on.
func (n *Node) refuseLate(out *Out) {
	late := 0
	for late < len(n.far) && n.Clock.Since(n.far[late].since) >= api.Wait {
		late++
	}
	n.refuseFar(out, late, api.ErrTime)
}

// refuseFar waits no longer for the first of the asks that were handed on.
func (n *Node) refuseFar(out *Out, first int, err api.Errno) {
	for _, f := range n.far[:first] {
		n.refuse(out, f.ask, err)
	}
	n.far = slices.Delete(n.far, 0, first)
}

func (n *Node) refuse(out *Out, a ask, err api.Errno) { n.tell(out, a, err, "", false) }

// tell tells whoever asked what came of it. Of the key it tells to an OGet alone, and with OK.
func (n *Node) tell(out *Out, a ask, err api.Errno, val string, has bool) {
	known := err == api.OK && a.op == api.OGet
	has = known && has
	if !has {
		val = ""
	}
	if a.from == client {
		out.Replies = append(out.Replies, api.Reply{Id: a.id, Op: a.op, Key: a.key, Err: err, Val: val, Has: has})
		return
	}
	m := api.Msg{Kind: api.MAnswer, From: n.id, To: a.from, Id: a.id, Err: err}
	if known {
		m.Item = api.Item{Key: a.key, Val: val, Gone: !has}
	}
	out.say(m)
}
