// Package text is layer 1: see shared/doc/01-text.md.
package text

import (
	"strings"
	"unicode/utf8"
)

const blanks = "\t\n\f\r "

// Valid tells whether s is UTF-8.
func Valid(s string) bool { return utf8.ValidString(s) }

// Lower goes by bytes: letters beyond ASCII, and bytes that begin no sign, have to stay as they are.
func Lower(s string) string {
	low := []byte(s)
	for i, c := range low {
		if 'A' <= c && c <= 'Z' {
			low[i] = c - 'A' + 'a'
		}
	}
	return string(low)
}

// Same tells whether a and b are one without regard to capitals.
func Same(a, b string) bool { return Lower(a) == Lower(b) }

// Lines is s with each end of a line as one byte 10.
func Lines(s string) string { return withEnds(s, "\n") }

// Pairs is s with each end of a line as 13 and 10.
func Pairs(s string) string { return withEnds(s, "\r\n") }

// NoBreaks is s without the bytes 10 and 13.
func NoBreaks(s string) string { return withEnds(s, "") }

// Strip copies what it leaves, so that the answer doesn't hold on to s.
func Strip(s string) string { return strings.Clone(strings.Trim(s, blanks)) }

// Collapse is Strip of s, with each run of blanks within it as one byte 32.
func Collapse(s string) string {
	var out strings.Builder
	stripped := Strip(s)
	for i := range len(stripped) {
		c := stripped[i]
		if !isBlank(c) {
			out.WriteByte(c)
		} else if !isBlank(stripped[i-1]) { // a stripped text doesn't begin with a blank: there is a byte ahead
			out.WriteByte(' ')
		}
	}
	return out.String()
}

// Units counts units of 16 bits. The range hands out a byte that begins no sign as one rune that is not above FFFF: such a byte counts one.
func Units(s string) int {
	units := 0
	for _, r := range s {
		units++
		if r > 0xFFFF {
			units++
		}
	}
	return units
}

// withEnds is s with each end of a line as the text end.
func withEnds(s, end string) string {
	var out strings.Builder
	out.Grow(len(s))
	for i := range len(s) {
		switch c := s[i]; {
		case c == '\n' && i > 0 && s[i-1] == '\r':
			// the 13 ahead has told this end of a line
		case c == '\n' || c == '\r':
			out.WriteString(end)
		default:
			out.WriteByte(c)
		}
	}
	return out.String()
}

func isBlank(c byte) bool { return strings.IndexByte(blanks, c) >= 0 }
