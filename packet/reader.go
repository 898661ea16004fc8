package packet

import (
	"bytes"

	"tabulary/api"
	"tabulary/digest"
	"tabulary/wire"
)

// A Reader takes packets apart.
type Reader struct {
	direction
	waiting []byte // its own: what was turned back stands where it came
	opened  int    // how many of them were turned back: the stream does so once
	failed  bool
}

// Feed puts bytes behind those that wait.
func (r *Reader) Feed(b []byte) {
	if r != nil && !r.failed {
		r.waiting = append(r.waiting, b...)
	}
}

// Left answers whether bytes wait that were no packet yet.
func (r *Reader) Left() bool {
	return r != nil && len(r.waiting) > 0
}

// Next answers the next packet's payload. ErrWait: it isn't all there. Once it
// is wrong (ErrLen, ErrMac, ErrForm), there will be none any more (ErrOver).
func (r *Reader) Next() ([]byte, api.Errno) {
	if r == nil || r.failed {
		return nil, api.ErrOver
	}
	size, e := r.awaited()
	if e == api.ErrWait {
		return nil, api.ErrWait
	}
	var payload []byte
	if e == api.OK {
		payload, e = r.payload(size)
	}
	if e != api.OK {
		r.failed, r.waiting = true, nil
		return nil, e
	}
	r.drop(size + r.codeLength())
	r.step()
	return payload, api.OK
}

// awaited answers the size of the next packet, once all of it waits.
func (r *Reader) awaited() (int, api.Errno) {
	unit := r.unit()
	if len(r.waiting) < unit {
		return 0, api.ErrWait
	}
	r.open(unit)
	length := wire.From(r.waiting[:lengthSize]).U32()
	if length < leastLength || length > mostLength {
		return 0, api.ErrLen
	}
	size := lengthSize + int(length)
	if size%unit != 0 {
		return 0, api.ErrLen
	}
	if len(r.waiting) < size+r.codeLength() {
		return 0, api.ErrWait
	}
	return size, api.OK
}

// payload answers the payload of the packet that waits; its code comes ahead of
// all that it says.
func (r *Reader) payload(size int) ([]byte, api.Errno) {
	r.open(size)
	plain, code := r.waiting[:size], r.waiting[size:size+r.codeLength()]
	if !digest.Same(r.code(plain), code) {
		return nil, api.ErrMac
	}
	pad := int(plain[lengthSize])
	end := size - pad
	if pad < leastPad || end <= headSize {
		return nil, api.ErrForm
	}
	return bytes.Clone(plain[headSize:end]), api.OK
}

// open turns back the first n bytes that wait, as far as they weren't yet.
func (r *Reader) open(n int) {
	copy(r.waiting[r.opened:n], r.turned(r.waiting[r.opened:n]))
	r.opened = n
}

// drop takes away the first n bytes that wait.
func (r *Reader) drop(n int) {
	r.waiting, r.opened = r.waiting[n:], 0
	if len(r.waiting) == 0 {
		r.waiting = nil // what was read isn't kept
	}
}
