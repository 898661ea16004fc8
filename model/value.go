package model

import (
	"slices"
	"strings"

	"tabulary/api"
)

// mostDigits of a number.
const mostDigits = 18

// Value: may the leaf d have it?
func Value(d api.Def, s string) bool {
	if len(s) > api.MaxValue || strings.ContainsFunc(s, noSign) {
		return false
	}
	switch d.Type {
	case api.TypeText:
		return true
	case api.TypeNumber:
		return number(s)
	case api.TypeBool:
		return s == "true" || s == "false"
	case api.TypeEnum:
		return slices.Contains(d.Values, s)
	}
	return false
}

// noSign tells whether no value may hold a sign.
func noSign(c rune) bool {
	return c < 32 || c > 126
}

// noDigit tells whether a sign is no digit.
func noDigit(c rune) bool {
	return c < '0' || c > '9'
}

// number tells whether s is a number in the one way in which it may be written.
func number(s string) bool {
	digits := strings.TrimPrefix(s, "-")
	if len(digits) < 1 || len(digits) > mostDigits || strings.ContainsFunc(digits, noDigit) {
		return false
	}
	return s == "0" || digits[0] != '0'
}
