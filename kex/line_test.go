package kex_test

import (
	"strings"
	"testing"

	"tabulary/kex"
)

// P8.1: texts that are lines, at their shortest and their longest.
func TestLine(t *testing.T) {
	for _, s := range []string{
		"SSH-2.0-",
		"SSH-2.0-tabulary",
		"SSH-2.0- ",
		"SSH-2.0-~",
		"SSH-2.0-SSH-2.0-",
		"SSH-2.0-OpenSSH_9.2p1 Debian-2+deb12u2",
		"SSH-2.0-" + strings.Repeat("x", 91),
		"SSH-2.0-" + strings.Repeat("x", 92),
	} {
		if got := kex.Line(s); got != s {
			t.Errorf("Line(%q): %q", s, got)
		}
	}
}

// P8.1: texts that are none: another beginning, too many characters, a line's end.
func TestLineOfOthers(t *testing.T) {
	for _, s := range []string{
		"",
		"S",
		"SSH-2.0",
		"SSH-1.99-x",
		"SSH-1.5-x",
		"SSH-2.1-x",
		"SSH-2x0-x",
		"ssh-2.0-x",
		" SSH-2.0-x",
		"xSSH-2.0-x",
		"SSH-2.0-x\r",
		"SSH-2.0-x\n",
		"SSH-2.0-x\r\n",
		"SSH-2.0-\x00",
		"SSH-2.0-a\tb",
		"SSH-2.0-\u00e4",
		"SSH-2.0-\u263a",
		"SSH-2.0-\xc3",
		"SSH-2.0-" + strings.Repeat("x", 93),
		"SSH-2.0-" + strings.Repeat("x", 100000),
		strings.Repeat("x", 100),
	} {
		if got := kex.Line(s); got != "" {
			t.Errorf("Line(%q): %q", s, got)
		}
	}
}

// P8.1: each byte, wherever it stands behind the beginning.
func TestLineOfEachByte(t *testing.T) {
	for c := range 256 {
		for _, s := range []string{
			"SSH-2.0-" + string([]byte{byte(c)}),
			"SSH-2.0-" + string([]byte{byte(c)}) + "end",
			"SSH-2.0-" + strings.Repeat("x", 91) + string([]byte{byte(c)}),
		} {
			want := ""
			if c >= 32 && c <= 126 {
				want = s
			}
			if got := kex.Line(s); got != want {
				t.Errorf("Line(%q): %q", s, got)
			}
		}
	}
}
