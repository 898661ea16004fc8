package model_test

import (
	"strings"
	"testing"

	"tabulary/api"
	"tabulary/model"
)

// may fails the test unless Value answers this, and so does what is reckoned
// apart.
func may(t *testing.T, want bool, d api.Def, s string) {
	t.Helper()
	if got := model.Value(d, s); got != want || valueApart(d, s) != want {
		t.Errorf("Value(%v, %q): %t, apart %t, want %t", d, s, got, valueApart(d, s), want)
	}
}

// everyType is a leaf of each type.
func everyType() []api.Def {
	return []api.Def{text("a"), number("a"), flag("a"), enum("a", "red", "true", "x-1.b", strings.Repeat("n", 32))}
}

// P14.1: a text has up to 128 signs from 32 to 126.
func TestTexts(t *testing.T) {
	for i := range 256 {
		for _, s := range []string{"~", "~x", "x~", "x~y", strings.Repeat("x", 127) + "~"} {
			may(t, i >= 32 && i <= 126, text("a"), strings.ReplaceAll(s, "~", string([]byte{byte(i)})))
		}
	}
	for _, s := range []string{"", " ", "  ", "<&>\"'", "a b", "0", "-", "true"} {
		may(t, true, text("a"), s)
		may(t, true, must(text("a")), s)
	}
	for _, s := range []string{"é", "a\u0300", "\ufffd", "\xc3", "日本", "a\tb", "a\n", "\r\n", "\x7f", "\u2028"} {
		may(t, false, text("a"), s)
	}
	for _, sign := range []string{"x", " ", "<", "~"} {
		for _, n := range []int{0, 1, 127, 128, 129, 130, 256, 10000} {
			may(t, n <= 128, text("a"), strings.Repeat(sign, n))
		}
	}
}

// everyText tells all texts of up to n of these signs.
func everyText(signs string, n int, tell func(string)) {
	tell("")
	if n == 0 {
		return
	}
	for _, sign := range strings.Split(signs, "") {
		everyText(signs, n-1, func(s string) { tell(sign + s) })
	}
}

// P14.1: numbers.
func TestNumbers(t *testing.T) {
	for s, ok := range map[string]bool{
		"0": true, "1": true, "9": true, "10": true, "-1": true, "-10": true, "100000000000000000": true, "999999999999999999": true, "-999999999999999999": true, "-100000000000000000": true, "123456789012345678": true,
		"1000000000000000000": false, "-1000000000000000000": false, "9999999999999999999": false,
		"": false, "-": false, "--1": false, "-0": false, "00": false, "-00": false, "01": false, "-01": false, "000000000000000001": false, "000000000000000000": false, "0-": false, "1-": false, "1-1": false, "+1": false, "+0": false, "1.0": false, ".1": false, "1e3": false, "0x1": false, "1_0": false, "1,0": false, " 1": false, "1 ": false, "- 1": false, "-1 ": false, "1\n": false, "a": false, "A": false, "1a": false, "a1": false, "/": false, ":": false, "1/": false, "1:": false, "٣": false, "１": false, "true": false,
	} {
		may(t, ok, number("a"), s)
		may(t, ok, must(number("a")), s)
	}
	everyText("-019+ a", 5, func(s string) { may(t, rightNumber.MatchString(s), number("a"), s) })
	for n := range 140 {
		for _, digit := range []string{"1", "9", "0"} {
			s := strings.Repeat(digit, n)
			may(t, n >= 1 && n <= 18 && (digit != "0" || n == 1), number("a"), s)
			may(t, n >= 1 && n <= 18 && digit != "0", number("a"), "-"+s)
			may(t, n <= 17, number("a"), "1"+s)
		}
	}
	for i := range 256 {
		s := string([]byte{byte(i)})
		may(t, i >= '0' && i <= '9', number("a"), s)
		may(t, i >= '0' && i <= '9', number("a"), "1"+s)
		may(t, i >= '1' && i <= '9', number("a"), "-"+s)
		may(t, i >= '1' && i <= '9' || i == '-', number("a"), s+"1")
	}
}

// P14.1: true and false.
func TestFlags(t *testing.T) {
	for s, ok := range map[string]bool{"true": true, "false": true, "": false, "True": false, "FALSE": false, "1": false, "0": false, "yes": false, " true": false, "true ": false, "tru": false, "truee": false, "true\n": false, "truefalse": false, "a": false} {
		may(t, ok, flag("a"), s)
		may(t, ok, enum("a", "true", "false"), s)
	}
}

// P14.1: the values of an enum.
func TestEnums(t *testing.T) {
	d := enum("a", "red", "Blue", "x-1.b_", "true", strings.Repeat("n", 32))
	for _, s := range d.Values {
		may(t, true, d, s)
		for _, other := range []string{s + " ", " " + s, s + "x", s[1:], strings.ToUpper(s) + "X", s + "\n"} {
			may(t, false, d, other)
		}
	}
	for _, s := range []string{"", "a", "Red", "RED", "blue", "redBlue", "x-1xb_", "0", "false"} {
		may(t, false, d, s)
	}
	d = enum("a")
	for i := range 32 {
		d.Values = append(d.Values, strings.Repeat("v", i+1))
	}
	for n := range 40 {
		may(t, n >= 1 && n <= 32, d, strings.Repeat("v", n))
	}
	may(t, true, enum("a", "x", "x"), "x")
}

// P14.1: what no leaf may have, and all short texts for each type.
func TestEveryType(t *testing.T) {
	for _, d := range everyType() {
		for _, s := range []string{"\x00", "tru\x80", "1\t", strings.Repeat("1", 129), strings.Repeat("true", 33)} {
			may(t, false, d, s)
		}
		everyText("-10redtu ", 4, func(s string) { may(t, valueApart(d, s), d, s) })
	}
	for _, kind := range []int{-1, 4, 256, 1 << 40} {
		if model.Value(api.Def{Name: "a", Kind: api.Leaf, Type: kind, Values: []string{"x", "1"}}, "x") {
			t.Error("a value of no type:", kind)
		}
	}
}
