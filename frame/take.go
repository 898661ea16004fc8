package frame

import (
	"bytes"
	"strconv"
	"strings"

	"tabulary/api"
)

// drop takes the first n bytes off those that wait.
func (d *Decoder) drop(n int) {
	d.waits = d.waits[n:]
	if len(d.waits) == 0 {
		d.waits = nil // what was taken isn't kept
	}
}

// untilEnd answers what stands ahead of the first End. Of an End that stands
// further behind than mostEnd nothing need be known: the message is too long.
func (d *Decoder) untilEnd() (string, api.Errno) {
	near := d.waits[:min(len(d.waits), mostEnd)]
	msg, _, found := bytes.Cut(near, []byte(End))
	switch {
	case found:
		d.drop(len(msg) + len(End))
		return string(msg), api.OK
	case len(near) == mostEnd:
		return "", api.ErrLen
	}
	return "", api.ErrWait
}

// gather answers the message of the next chunks, once its last one is there.
func (d *Decoder) gather() (string, api.Errno) {
	for {
		whole, e := d.step()
		if e != api.OK {
			return "", e
		}
		if whole {
			msg := string(d.part)
			d.part = nil
			return msg, api.OK
		}
	}
}

// step takes a head off the bytes that wait, and its chunk; it tells whether
// the message is whole by that.
func (d *Decoder) step() (bool, api.Errno) {
	head, found := d.head()
	switch {
	case !begins(head):
		return false, api.ErrForm
	case !found:
		return false, api.ErrWait
	case head != last:
		return false, d.chunk(head)
	case len(d.part) == 0: // no chunk is empty
		return false, api.ErrForm
	}
	d.drop(len(head) + 1)
	return true, api.OK
}

// head answers what waits up to the second end of a line, and whether that is
// there. The first byte isn't looked at for that. A head that is too long is
// answered cut off, but too long still.
func (d *Decoder) head() (string, bool) {
	near := string(d.waits[:min(len(d.waits), mostHead+1)])
	for i := 1; i < len(near); i++ {
		if near[i] == '\n' {
			return near[:i], true
		}
	}
	return near, false
}

// begins tells whether a head begins as one should, as far as it is there, and
// isn't too long.
func begins(head string) bool {
	n := min(len(head), len(ahead))
	return head[:n] == ahead[:n] && len(head) <= mostHead
}

// chunk takes a head and its chunk off the bytes that wait, once all of the
// chunk is there.
func (d *Decoder) chunk(head string) api.Errno {
	size, ok := sizeOf(head)
	if !ok {
		return api.ErrForm
	}
	if len(d.part)+size > api.MaxMessage {
		return api.ErrLen
	}
	from := len(head) + 1
	if len(d.waits) < from+size {
		return api.ErrWait
	}
	d.part = append(d.part, d.waits[from:from+size]...)
	d.drop(from + size)
	return api.OK
}

// sizeOf answers the size that a head tells, and whether it is one: above 0, and
// written in digits alone, without zeros ahead.
func sizeOf(head string) (int, bool) {
	digits := strings.TrimPrefix(head, ahead)
	n, err := strconv.Atoi(digits)
	return n, err == nil && n > 0 && strconv.Itoa(n) == digits
}
