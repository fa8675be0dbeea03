package move

import (
	"icehouse/api"
	"icehouse/item"
	"icehouse/store"
)

// In is the end that takes.
type In struct {
	road
	id   int64 // the stream's; 0: none has come
	n    int   // how many of its messages came
	last bool  // whether its last one is among them
	know int64 // the marks up to that number have been done here, or are ahead of the stream
}

// Take begins to take the entries of the parts into s; nil: there is no store.
func Take(s *store.Store, epoch int64, src, dst int, parts ...api.Move) *In {
	if s == nil {
		return nil
	}
	return &In{road: newRoad(s, epoch, src, dst, parts)}
}

// Step takes in what src says, and answers it.
func (x *In) Step(m api.Msg) []api.Msg {
	switch {
	case x.down() || m.Epoch != x.epoch || m.From != x.src || m.To != x.dst:
		return nil
	case m.Kind != api.MItems && m.Kind != api.MMarks:
		return nil
	case m.Tick != x.store.Started():
		return x.have(m.Id, 0)
	case m.Kind == api.MItems:
		return x.items(m)
	}
	return x.marks(m)
}

// down tells an In that Take did not make.
func (x *In) down() bool { return x == nil || x.store == nil }

// items takes in a message of a stream. What could not be written is not told to be there.
func (x *In) items(m api.Msg) []api.Msg {
	switch {
	case m.Id > x.id && m.N == 1:
		if !x.clear() || !x.put(m.Items) {
			return nil
		}
		x.id, x.n, x.last, x.know = m.Id, 1, m.Last, m.Seq
	case m.Id > x.id:
		return x.have(m.Id, 0)
	case m.Id != x.id || x.n == 0 || m.N < 1 || m.N > x.n+1:
		return nil
	case m.N == x.n+1:
		if !x.put(m.Items) {
			return nil
		}
		x.n, x.last = m.N, x.last || m.Last
	}
	return x.have(x.id, x.n)
}

// marks takes in what was made invalid while the stream was sent.
func (x *In) marks(m api.Msg) []api.Msg {
	switch {
	case m.Id > x.id:
		return x.have(m.Id, 0)
	case m.Id != x.id || !x.last || m.Seq > x.know:
		return nil
	}
	know := x.know
	var keys []string
	for _, k := range m.Marks {
		// It must not know what is behind a mark that it was not told.
		if k.Seq <= know || k.Seq-1 != know {
			continue
		}
		know = k.Seq
		if item.May(api.Item{Key: k.Key}) && covers(x.parts, k.Key) {
			keys = append(keys, k.Key)
		}
	}
	if len(keys) > 0 && x.store.Drop(keys...) != api.OK {
		return nil
	}
	x.know = know
	return []api.Msg{{Kind: api.MKnow, From: x.dst, To: x.src, Epoch: x.epoch, Tick: x.store.Started(), Id: x.id, Seq: x.know}}
}

// have says that n messages of the stream id came.
func (x *In) have(id int64, n int) []api.Msg {
	return []api.Msg{{Kind: api.MHave, From: x.dst, To: x.src, Epoch: x.epoch, Tick: x.store.Started(), Id: id, N: n}}
}

// clear takes away what an elder stream, or an elder time, left of the parts; false: that does not last.
func (x *In) clear() bool {
	var keys []string
	for _, key := range x.store.Keys() {
		if covers(x.parts, key) {
			keys = append(keys, key)
		}
	}
	return x.store.Drop(keys...) == api.OK
}

// put puts the entries; false: that does not last.
func (x *In) put(l []api.Item) bool {
	for _, it := range l {
		// What may not be put, or is Gone, is refused; the others are not less welcome for that.
		if covers(x.parts, it.Key) {
			x.store.Put(it)
		}
	}
	return x.store.Flush() == api.OK
}
