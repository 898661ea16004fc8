package field

import "math/bits"

// Add answers the sum.
func (e Elem) Add(f Elem) Elem {
	for i := range count {
		e.parts[i] += f.parts[i]
	}
	return e.carried()
}

// Sub answers the difference.
func (e Elem) Sub(f Elem) Elem {
	// No part of f is greater than that of 2p, so none goes below 0.
	for i := range count {
		e.parts[i] += 2*primePart(i) - f.parts[i]
	}
	return e.carried()
}

// Mul answers the product.
func (e Elem) Mul(f Elem) Elem {
	var sums [count]wide
	for i := range count {
		for j := range count {
			at, factor := i+j, e.parts[i]
			if at >= count {
				at, factor = at-count, factor*wrap
			}
			sums[at] = sums[at].plus(factor, f.parts[j])
		}
	}
	var low, over [count]uint64
	for i := range count {
		low[i], over[i] = sums[i].split()
	}
	return joined(low, over).carried()
}

// carried answers the same number with each part below 2^51 + 2^18, whatever
// the parts were.
func (e Elem) carried() Elem {
	var low, over [count]uint64
	for i := range count {
		low[i], over[i] = e.parts[i]&ones, e.parts[i]>>width
	}
	return joined(low, over)
}

// joined answers the number of parts of 51 bits and of what is over at each of
// them: it goes to the next one, and from the last one to the first.
func joined(low, over [count]uint64) Elem {
	low[0] += over[count-1] * wrap
	for i := range count - 1 {
		low[i+1] += over[i]
	}
	return Elem{low}
}

// primePart answers a part of p.
func primePart(i int) uint64 {
	if i == 0 {
		return ones + 1 - wrap
	}
	return ones
}

// A wide is a number of 128 bits. What Mul adds up stays below 2^111, and at
// the last part, where nothing was wrapped round, below 2^107: what is over
// there is below 2^56, and 19 times as much has room in 64 bits.
type wide struct {
	high, low uint64
}

// plus answers w and the product of a and b.
func (w wide) plus(a, b uint64) wide {
	high, low := bits.Mul64(a, b)
	low, carry := bits.Add64(w.low, low, 0)
	high, _ = bits.Add64(w.high, high, carry)
	return wide{high, low}
}

// split answers the lowest 51 bits of w, and what is over.
func (w wide) split() (uint64, uint64) {
	return w.low & ones, w.high<<(64-width) | w.low>>width
}
