package ladder

import "tabulary/field"

const (
	top     = 254              // the highest bit of a secret's number
	quarter = (486662 - 2) / 4 // of the curve's 486662, what a doubling needs
)

// A fraction is a point's first coordinate, over/under, so that nothing needs
// to be divided on the way; nothing, the sum of no points, is 1/0.
type fraction struct {
	over, under field.Elem
}

// times answers the first coordinate of u's point, n times by itself. It does
// the same, whatever the bits of n: its time doesn't tell the secret.
func times(n [size]byte, u field.Elem) field.Elem {
	// Of n's bits so far, low is so many times the point; high is once more.
	// They always differ by the point itself, which add needs.
	low := fraction{over: field.Small(1)}
	high := fraction{over: u, under: field.Small(1)}
	for i := top; i >= 0; i-- {
		set := n[i/8]>>(i%8)&1 == 1
		low, high = swap(set, low, high)
		low, high = double(low), add(low, high, u)
		low, high = swap(set, low, high)
	}
	return low.over.Mul(low.under.Inv())
}

// swap answers q and p, if so, else p and q.
func swap(so bool, p, q fraction) (fraction, fraction) {
	return pick(so, q, p), pick(so, p, q)
}

// pick answers p, if so, else q.
func pick(so bool, p, q fraction) fraction {
	return fraction{
		over:  field.Pick(so, p.over, q.over),
		under: field.Pick(so, p.under, q.under),
	}
}

// double answers p's point, twice by itself.
func double(p fraction) fraction {
	sum, gap := p.over.Add(p.under), p.over.Sub(p.under)
	sum, gap = sum.Mul(sum), gap.Mul(gap)
	product := sum.Sub(gap) // 4 times over times under
	return fraction{
		over:  sum.Mul(gap),
		under: product.Mul(sum.Add(product.Mul(field.Small(quarter)))),
	}
}

// add answers the sum of two points that differ by u's point.
func add(p, q fraction, u field.Elem) fraction {
	left := p.over.Add(p.under).Mul(q.over.Sub(q.under))
	right := p.over.Sub(p.under).Mul(q.over.Add(q.under))
	sum, gap := left.Add(right), left.Sub(right)
	return fraction{
		over:  sum.Mul(sum),
		under: gap.Mul(gap).Mul(u),
	}
}
