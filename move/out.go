package move

import (
	"slices"

	"icehouse/api"
	"icehouse/store"
)

// boots is how far the numbers of streams of one start of a node lie from those of the next start.
const boots = 1 << 20

// Out is the end that sends. It reads a stream message by message, and keeps the one that dst has not: so what is sent again is what was sent.
type Out struct {
	road
	msg     api.Msg // the message of items that was read last
	streams int64   // how many began
	behind  place   // what the next message begins with
	sent    bool
	know    int64 // the journal's marks up to that number need not be sent
	frozen  bool
	end     int64 // if it is frozen: what dst must know
}

// place is one between two entries: those ahead of it are of the parts ahead, or of keys up to after.
type place struct {
	part  int
	after string
}

// Send begins to send the entries of the parts that s has; nil: there is no store.
func Send(s *store.Store, epoch int64, src, dst int, parts ...api.Move) *Out {
	if s == nil {
		return nil
	}
	o := &Out{road: newRoad(s, epoch, src, dst, parts)}
	o.begin(0)
	return o
}

// Next is what dst has not, to be sent once more; nothing, if there is nothing that it could have.
func (o *Out) Next() []api.Msg {
	if o.down() || o.Done() {
		return nil
	}
	if o.sent && o.frozen && o.lost() {
		o.begin(o.msg.Tick)
	}
	switch {
	case !o.sent:
		m := o.msg
		m.Items = slices.Clone(m.Items)
		return []api.Msg{m}
	case o.frozen:
		return o.marks()
	}
	return nil
}

// Step takes in what dst says, and answers what is to be sent for it.
func (o *Out) Step(m api.Msg) []api.Msg {
	if o.down() || !o.hears(m) || !o.learn(m) {
		return nil
	}
	return o.Next()
}

// Freeze makes the journal's last mark the last one that dst must know.
func (o *Out) Freeze() {
	if o.down() {
		return
	}
	o.frozen, o.end = true, o.store.Seq()
}

// Sent tells whether dst has all of the stream.
func (o *Out) Sent() bool { return o != nil && o.sent }

// Done tells whether dst has all of the stream, and knows all that was made invalid till the last Freeze.
func (o *Out) Done() bool { return o.Sent() && o.frozen && o.know >= o.end }

// down tells an Out that Send did not make.
func (o *Out) down() bool { return o == nil || o.store == nil }

// hears tells whether m is an answer of the other end.
func (o *Out) hears(m api.Msg) bool {
	return (m.Kind == api.MHave || m.Kind == api.MKnow) && m.Epoch == o.epoch && m.From == o.dst && m.To == o.src
}

// learn takes in what the other end says, and tells whether that changed anything.
func (o *Out) learn(m api.Msg) bool {
	if m.Tick != o.msg.Tick {
		o.begin(m.Tick)
		return true
	}
	changed := false
	switch {
	case m.Id != o.msg.Id:
	case m.Kind == api.MHave:
		changed = o.has(m.N)
	case m.Seq > o.know:
		o.know, changed = m.Seq, true
	}
	if o.lost() {
		o.begin(o.msg.Tick)
		return true
	}
	return changed
}

// has takes in that dst has n of the stream's messages, and tells whether that changed anything.
func (o *Out) has(n int) bool {
	switch {
	case n == 0:
		o.begin(o.msg.Tick)
	case n != o.msg.N || o.sent:
		return false
	case o.msg.Last:
		o.sent, o.msg.Items = true, nil
	default:
		o.read()
	}
	return true
}

// lost tells whether dst lacks marks that the journal has not any more. Whoever is frozen needs none behind the end.
func (o *Out) lost() bool {
	return o.know < o.store.Base() && !(o.frozen && o.know >= o.end)
}

// begin begins a new stream, to the boot tick of dst.
func (o *Out) begin(tick int64) {
	o.streams++
	o.behind, o.sent = place{}, false
	o.msg = api.Msg{Kind: api.MItems, From: o.src, To: o.dst, Epoch: o.epoch, Tick: tick, Id: o.store.Started()*boots + o.streams}
	o.read()
	// What was made invalid ahead of the first message is in none of the stream; what comes behind may be.
	o.know = o.msg.Seq
}

// read reads the stream's next message.
func (o *Out) read() {
	o.msg.N++
	o.msg.Seq = o.store.Seq()
	o.msg.Items, o.behind = o.entries(o.behind, api.Chunk)
	more, _ := o.entries(o.behind, 1)
	o.msg.Last = len(more) == 0
}

// entries are the first n that lie behind at, and the place behind them. A part passes over what those ahead of it have.
func (o *Out) entries(at place, n int) ([]api.Item, place) {
	var out []api.Item
	for len(out) < n && at.part < len(o.parts) {
		part := o.parts[at.part]
		l := o.store.Between(part.From, part.To, at.after, n-len(out))
		if len(l) == 0 {
			at = place{part: at.part + 1}
			continue
		}
		at.after = l[len(l)-1].Key
		for _, x := range l {
			if !covers(o.parts[:at.part], x.Key) {
				out = append(out, x)
			}
		}
	}
	return out, at
}

// marks is the message of the first marks that dst knows nothing of.
func (o *Out) marks() []api.Msg {
	l, ok := o.store.Since(o.know, api.Chunk)
	if !ok {
		return nil
	}
	return []api.Msg{{Kind: api.MMarks, From: o.src, To: o.dst, Epoch: o.epoch, Tick: o.msg.Tick, Id: o.msg.Id, Seq: o.know, Marks: l}}
}
