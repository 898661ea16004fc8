package xml

import (
	"strconv"
	"strings"
)

// mostDigits of an entity that tells its sign by a number.
const mostDigits = 8

// readEntities answers a text with the signs that its entities stand for.
func readEntities(s string) (string, bool) {
	var b strings.Builder
	for {
		ahead, rest, found := strings.Cut(s, "&")
		b.WriteString(ahead)
		if !found {
			return b.String(), true
		}
		name, behind, found := strings.Cut(rest, ";")
		c, ok := entity(name)
		if !found || !ok {
			return "", false
		}
		b.WriteByte(c)
		s = behind
	}
}

// entity answers the sign that an entity stands for, given what stands between
// its & and its ; .
func entity(name string) (byte, bool) {
	switch name {
	case "lt":
		return '<', true
	case "gt":
		return '>', true
	case "amp":
		return '&', true
	case "quot":
		return '"', true
	case "apos":
		return '\'', true
	}
	if digits, found := strings.CutPrefix(name, "#x"); found {
		return numbered(digits, 16)
	}
	if digits, found := strings.CutPrefix(name, "#"); found {
		return numbered(digits, 10)
	}
	return 0, false
}

// numbered answers the sign of a number that is written in digits of a base; as
// everywhere, those of base 16 are 0 to 9 and A to F.
func numbered(digits string, base int) (byte, bool) {
	n, err := strconv.ParseUint(digits, base, 8)
	if err != nil || len(digits) > mostDigits || strings.ToUpper(digits) != digits || !sign(byte(n)) {
		return 0, false
	}
	return byte(n), true
}
