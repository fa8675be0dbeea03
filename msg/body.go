package msg

import (
	"icehouse/api"
	"icehouse/item"
	"icehouse/num"
)

// The number of Last.
const (
	notLast = 0
	isLast  = 1
)

// body writes a message that may be: its numbers, then its texts, of which each list is one.
func body(m api.Msg) []byte {
	texts := num.PutText(nil,
		m.Key, itemText(m.Item), itemsText(m.Items), marksText(m.Marks),
		nodesText(m.Members), nodesText(m.Old))
	return append(head(m), texts...)
}

// parse reads a body; false: it is not just what body writes of some message, which may be or not.
func parse(b []byte) (api.Msg, bool) {
	m, n, ok := parseHead(b)
	if !ok {
		return api.Msg{}, false
	}
	var one, items, marks, members, old string
	ok = parseTexts(b[n:], &m.Key, &one, &items, &marks, &members, &old) &&
		parseItem(one, &m.Item) && parseItems(items, &m.Items) && parseMarks(marks, &m.Marks) &&
		parseNodes(members, &m.Members) && parseNodes(old, &m.Old)
	if !ok {
		return api.Msg{}, false
	}
	return m, true
}

func head(m api.Msg) []byte {
	last := int64(notLast)
	if m.Last {
		last = isLast
	}
	return num.Put(nil,
		int64(m.Kind), int64(m.From), int64(m.To), m.Epoch, m.Tick, m.Seq,
		int64(m.N), m.Id, int64(m.Op), int64(m.Err), last, m.Base)
}

// parseHead reads the numbers at the beginning of b, and tells how many bytes they take.
func parseHead(b []byte) (api.Msg, int, bool) {
	var m api.Msg
	var kind, from, to, n, op, errno, last int64
	size, err := num.All(b,
		&kind, &from, &to, &m.Epoch, &m.Tick, &m.Seq,
		&n, &m.Id, &op, &errno, &last, &m.Base)
	if err != api.OK || last != notLast && last != isLast {
		return api.Msg{}, 0, false
	}
	m.Kind, m.From, m.To = int(kind), int(from), int(to)
	m.N, m.Op, m.Err, m.Last = int(n), int(op), api.Errno(errno), last == isLast
	return m, size, true
}

// parseTexts reads texts one behind the other, each into its place; false: b is not just as many.
func parseTexts(b []byte, places ...*string) bool {
	for _, place := range places {
		text, n, err := num.GetText(b)
		if err != api.OK {
			return false
		}
		*place, b = text, b[n:]
	}
	return len(b) == 0
}

// itemText is empty of a zero entry: no other one has that text.
func itemText(x api.Item) string { return string(item.Encode(x)) }

func parseItem(text string, x *api.Item) bool {
	var xs []api.Item
	if !parseItems(text, &xs) || len(xs) > 1 {
		return false
	}
	if len(xs) == 1 {
		*x = xs[0]
	}
	return true
}

func itemsText(xs []api.Item) string { return string(item.Encode(xs...)) }

func parseItems(text string, xs *[]api.Item) bool {
	if text == "" {
		return true
	}
	var err api.Errno
	*xs, err = item.Decode([]byte(text))
	return err == api.OK
}

func marksText(ms []api.Mark) string {
	var b []byte
	for _, m := range ms {
		b = append(b, num.Put(nil, m.Seq)...)
		b = append(b, num.PutText(nil, m.Key)...)
	}
	return string(b)
}

func parseMarks(text string, ms *[]api.Mark) bool {
	for b := []byte(text); len(b) > 0; {
		seq, n, err := num.Get(b)
		if err != api.OK {
			return false
		}
		key, k, err := num.GetText(b[n:])
		if err != api.OK {
			return false
		}
		*ms, b = append(*ms, api.Mark{Seq: seq, Key: key}), b[n+k:]
	}
	return true
}

func nodesText(nodes []int) string {
	var b []byte
	for _, node := range nodes {
		b = append(b, num.Put(nil, int64(node))...)
	}
	return string(b)
}

func parseNodes(text string, nodes *[]int) bool {
	for b := []byte(text); len(b) > 0; {
		node, n, err := num.Get(b)
		if err != api.OK {
			return false
		}
		*nodes, b = append(*nodes, int(node)), b[n:]
	}
	return true
}
