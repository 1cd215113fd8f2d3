// Package num is layer 1: see shared/doc/01-num.md.
package num

import (
	"math/bits"
	"strings"

	"copyhold/api"
)

const (
	// leastLong is the first number that one byte alone no longer says: the bytes from here on tell how many follow.
	leastLong = 248
	// longMark and k make the byte ahead of k bytes.
	longMark = leastLong - 1
	// mostWidth is how many bytes a uint64 has.
	mostWidth = 8
)

// Var: numbers as rows.
func Var(ns ...uint64) string {
	var out []byte
	for _, n := range ns {
		out = appendRow(out, n)
	}
	return string(out)
}

// ReadVar: the number that a text begins with.
func ReadVar(s string) (n uint64, size int, ok bool) {
	if s == "" {
		return 0, 0, false
	}
	if s[0] < leastLong {
		return uint64(s[0]), 1, true
	}
	width := int(s[0]) - longMark
	n, ok = ReadBig(s[1:], width)
	// Each number has one row: one that could be shorter is none.
	if !ok || n < leastLong || widthOf(n) != width {
		return 0, 0, false
	}
	return n, 1 + width, true
}

// Big: a number of a width.
func Big(n uint64, width int) (string, api.Errno) {
	if !isWidth(width) {
		return "", api.ErrArg
	}
	if widthOf(n) > width {
		return "", api.ErrLong
	}
	return string(appendBig(nil, n, width)), api.OK
}

// ReadBig: the number of a width that a text begins with.
func ReadBig(s string, width int) (n uint64, ok bool) {
	if !isWidth(width) || len(s) < width {
		return 0, false
	}
	for i := range width {
		n = n<<8 | uint64(s[i])
	}
	return n, true
}

// Text: texts as rows.
func Text(ss ...string) string {
	var out []byte
	for _, s := range ss {
		out = appendRow(out, uint64(len(s)))
		out = append(out, s...)
	}
	return string(out)
}

// ReadText: the text that a text begins with.
func ReadText(s string, most int) (text string, size int, ok bool) {
	length, head, ok := ReadVar(s)
	if !ok || most < 0 {
		return "", 0, false
	}
	// Compared as uint64: a length may be more than an int holds.
	if length > uint64(most) || length > uint64(len(s)-head) {
		return "", 0, false
	}
	size = head + int(length)
	// What is answered is new memory (R4).
	return strings.Clone(s[head:size]), size, true
}

func isWidth(width int) bool { return 1 <= width && width <= mostWidth }

// widthOf: how many bytes a number needs; 0 needs none, so that it goes into every width.
func widthOf(n uint64) int { return (bits.Len64(n) + 7) / 8 }

func appendRow(out []byte, n uint64) []byte {
	if n < leastLong {
		return append(out, byte(n))
	}
	width := widthOf(n)
	return appendBig(append(out, byte(longMark+width)), n, width)
}

func appendBig(out []byte, n uint64, width int) []byte {
	for at := width - 1; at >= 0; at-- {
		out = append(out, byte(n>>(8*at)))
	}
	return out
}
