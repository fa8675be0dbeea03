// Package mix: hashes: see doc/01-mix.md.
package mix

const (
	seed      = 0x9E3779B97F4A7C15
	first     = 0xBF58476D1CE4E5B9
	second    = 0x94D049BB133111EB
	nodeSteps = 1000003
	// endMark lies above every byte, so that the end of a part is never taken for a byte of it.
	endMark = 256
)

// Stir spreads the bits of x over all 64 of the answer; products wrap.
func Stir(x uint64) uint64 {
	x = (x ^ x>>30) * first
	x = (x ^ x>>27) * second
	return x ^ x>>31
}

// Of hashes the parts in order; where one part ends counts too.
func Of(parts ...string) uint64 {
	h := uint64(seed)
	for _, part := range parts {
		h = addPart(h, part)
	}
	return h
}

// addPart goes by index, because a range over a string would yield runes, not bytes.
func addPart(h uint64, part string) uint64 {
	for i := 0; i < len(part); i++ {
		h = Stir(h^uint64(part[i])) + 1
	}
	return Stir(h ^ (endMark + uint64(len(part))))
}

// Point is where the point number i of a node lies; the product and the sum wrap as those of an int64.
func Point(node, i int) uint64 {
	return Stir(uint64(int64(node)*nodeSteps + int64(i)))
}
