package twist

import "tabulary/field"

// curve is the bytes of the curve's number d = -121665/121666.
var curve = [size]byte{
	0xA3, 0x78, 0x59, 0x13, 0xCA, 0x4D, 0xEB, 0x75, 0xAB, 0xD8, 0x41, 0x41, 0x4D, 0x0A, 0x70, 0x00,
	0x98, 0xE8, 0x79, 0x77, 0x79, 0x40, 0xC7, 0x8C, 0x73, 0xFE, 0x6F, 0x2B, 0xEE, 0x6C, 0x03, 0x52,
}

// baseX is the bytes of the base's x: of the two that go with its y, the even one.
var baseX = [size]byte{
	0x1A, 0xD5, 0x25, 0x8F, 0x60, 0x2D, 0x56, 0xC9, 0xB2, 0xA7, 0x25, 0x95, 0x60, 0xC7, 0x2C, 0x69,
	0x5C, 0xDC, 0xD6, 0xFD, 0x31, 0xE2, 0xA4, 0xC0, 0xFE, 0x53, 0x6E, 0xCD, 0xD3, 0x36, 0x69, 0x21,
}

// baseY is the bytes of the base's y = 4/5.
var baseY = [size]byte{
	0x58, 0x66, 0x66, 0x66, 0x66, 0x66, 0x66, 0x66, 0x66, 0x66, 0x66, 0x66, 0x66, 0x66, 0x66, 0x66,
	0x66, 0x66, 0x66, 0x66, 0x66, 0x66, 0x66, 0x66, 0x66, 0x66, 0x66, 0x66, 0x66, 0x66, 0x66, 0x66,
}

// A point of the curve is (x/z, y/z), so that nothing needs to be divided on
// the way. As sums need it, xy is kept too: x times y, divided by z.
type point struct {
	x, y, z, xy field.Elem
}

// A term is a point as a sum needs it: what can be reckoned ahead of many sums.
type term struct {
	less, more field.Elem // y - x, y + x
	z, xy      field.Elem // twice z, and 2d times xy
}

// nothing answers the sum of no points.
func nothing() point {
	return at(field.Small(0), field.Small(1))
}

// base answers B.
func base() point {
	return at(elem(baseX), elem(baseY))
}

// elem answers the number of its bytes.
func elem(b [size]byte) field.Elem {
	e, _ := field.Read(b[:])
	return e
}

// at answers the point (x, y).
func at(x, y field.Elem) point {
	return point{x, y, field.Small(1), x.Mul(y)}
}

// pointOf answers the point whose bytes b is; false, if b isn't a point's.
func pointOf(b []byte) (point, bool) {
	y, ok := field.Read(b)
	if !ok {
		return point{}, false
	}
	one, square := field.Small(1), y.Mul(y)
	// y^2 - x^2 = 1 + d x^2 y^2; as -1 is a square, and d isn't one, what is
	// divided by is never 0.
	under := square.Mul(elem(curve)).Add(one)
	x, ok := square.Sub(one).Mul(under.Inv()).Root()
	if !ok {
		return point{}, false
	}
	odd := b[size-1]>>7 == 1
	x = field.Pick(x.Odd() == odd, x, field.Small(0).Sub(x))
	// Where p is still in y, or bit 255 is set though x is 0, the point's own
	// bytes are others.
	if told(x, y) != [size]byte(b) {
		return point{}, false
	}
	return at(x, y), true
}

// told answers the bytes of the point (x, y).
func told(x, y field.Elem) [size]byte {
	b := y.Bytes()
	if x.Odd() {
		b[size-1] |= 0x80
	}
	return b
}

// bytes answers p's bytes.
func (p point) bytes() [size]byte {
	inverse := p.z.Inv()
	return told(p.x.Mul(inverse), p.y.Mul(inverse))
}

// minus answers the point that added to p is nothing.
func (p point) minus() point {
	zero := field.Small(0)
	return point{zero.Sub(p.x), p.y, p.z, zero.Sub(p.xy)}
}

// twiceD answers 2d.
func twiceD() field.Elem {
	d := elem(curve)
	return d.Add(d)
}

// asTerm answers p as a sum needs it; d2 is 2d.
func (p point) asTerm(d2 field.Elem) term {
	return term{
		less: p.y.Sub(p.x),
		more: p.y.Add(p.x),
		z:    p.z.Add(p.z),
		xy:   p.xy.Mul(d2),
	}
}

// plus answers the sum of p and t's point by the curve's own rule, which holds
// for all points, the same one twice too. All of both fractions is taken twice,
// as two products then do for four.
func (p point) plus(t term) point {
	low, high := p.y.Sub(p.x).Mul(t.less), p.y.Add(p.x).Mul(t.more)
	one, more := p.z.Mul(t.z), p.xy.Mul(t.xy)
	return quotients(high.Sub(low), one.Add(more), high.Add(low), one.Sub(more))
}

// quotients answers the point of which x and y are these fractions.
func quotients(xOver, xUnder, yOver, yUnder field.Elem) point {
	return point{
		x:  xOver.Mul(yUnder),
		y:  yOver.Mul(xUnder),
		z:  xUnder.Mul(yUnder),
		xy: xOver.Mul(yOver),
	}
}

// times answers p, n times by itself. It does the same, whatever the bits of n.
func (p point) times(n number) point {
	all, d2 := nothing(), twiceD()
	t := p.asTerm(d2)
	for i := top; i >= 0; i-- {
		all = all.plus(all.asTerm(d2))
		all = pick(n.bit(i) == 1, all.plus(t), all)
	}
	return all
}

// pick answers p, if so, else q.
func pick(so bool, p, q point) point {
	return point{
		x:  field.Pick(so, p.x, q.x),
		y:  field.Pick(so, p.y, q.y),
		z:  field.Pick(so, p.z, q.z),
		xy: field.Pick(so, p.xy, q.xy),
	}
}
