package field

// Pow answers e to the power of the number whose bytes x is, the lowest first.
// Its time tells x, which must be no secret.
func (e Elem) Pow(x []byte) Elem {
	power := Small(1)
	for _, b := range x {
		for i := range 8 {
			if b>>i&1 == 1 {
				power = power.Mul(e)
			}
			e = e.Mul(e)
		}
	}
	return power
}

// Inv answers what times e is 1; 0 of 0.
func (e Elem) Inv() Elem {
	minus2 := below(255, wrap+2)
	return e.Pow(minus2[:])
}

// Root answers a square root and true, if there is one.
func (e Elem) Root() (Elem, bool) {
	// 8 goes into p + 3. The square of e to the power of (p + 3)/8 is e times
	// a fourth root of 1; if that is -1, a square root of -1 sets it right.
	eighth := below(252, 2)
	root := e.Pow(eighth[:])
	if root.Mul(root).Same(e) {
		return root, true
	}
	root = root.Mul(rootOfMinus1())
	if root.Mul(root).Same(e) {
		return root, true
	}
	return Elem{}, false
}

// rootOfMinus1 answers 2 to the power of (p - 1)/4: as 2 is no square, the
// square of that is -1.
func rootOfMinus1() Elem {
	quarter := below(253, 5)
	return Small(2).Pow(quarter[:])
}

// below answers the bytes of 2^n - less, the lowest first, for n from 249 to
// 256 and less from 1 to 256.
func below(n, less int) [32]byte {
	var b [32]byte
	for i := range b {
		b[i] = 0xFF
	}
	b[0] = byte(256 - less)
	b[31] >>= 256 - n
	return b
}
