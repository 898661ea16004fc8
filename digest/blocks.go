package digest

// eachBlock hands the text that the parts are, one behind the other, and what
// follows it to use, block by block. A block holds till the next one.
func eachBlock(size int, parts [][]byte, use func(block []byte)) {
	block := make([]byte, size)
	n := 0
	add := func(b []byte) {
		for len(b) > 0 {
			c := copy(block[n%size:], b)
			b, n = b[c:], n+c
			if n%size == 0 {
				use(block)
			}
		}
	}
	for _, p := range parts {
		add(p)
	}
	add(ending(n, size))
}

// ending answers what follows a text of n bytes, so that whole blocks come
// about. A block is sixteen words of w bits, so w/4 bytes are its eighth.
func ending(n, size int) []byte {
	count := size / 8
	room := size - (n+count)%size
	end := make([]byte, room+count)
	end[0] = 0x80
	bits := eightBytes(uint64(n) * 8)
	copy(end[len(end)-len(bits):], bits[:])
	return end
}

// eightBytes answers n in eight bytes, the highest first.
func eightBytes(n uint64) [8]byte {
	var b [8]byte
	for i := range b {
		b[i] = byte(n >> (56 - 8*i))
	}
	return b
}
