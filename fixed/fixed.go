// Package fixed is layer 1: see shared/doc/01-fixed.md.
package fixed

import (
	"strings"

	"cambist/api"
)

const (
	maxWidth    = 7    // 8 bytes hold numbers that are no ints
	intWidth    = 8    // bytes of any int
	lengthWidth = 2    // bytes of a text's length
	maxText     = 4000 // bytes of a text
)

// Put encodes n in width bytes, most significant byte first.
func Put(n, width int) (string, api.Errno) {
	if !isWidth(width) || !fits(n, width) {
		return "", api.ErrArg
	}
	return encode(uint64(n), width), api.OK
}

// Get decodes the number of width bytes at the offset at of s.
func Get(s string, at, width int) (int, api.Errno) {
	if !isOffset(s, at) || !isWidth(width) {
		return 0, api.ErrArg
	}
	if !follow(s, at, width) {
		return 0, api.ErrShort
	}
	return int(decode(s, at, width)), api.OK
}

// PutInt encodes any int in eight bytes, modulo 2 to the 64th.
func PutInt(n int) string {
	return encode(uint64(n), intWidth)
}

// GetInt decodes the int of eight bytes at the offset at of s.
func GetInt(s string, at int) (int, api.Errno) {
	if !isOffset(s, at) {
		return 0, api.ErrArg
	}
	if !follow(s, at, intWidth) {
		return 0, api.ErrShort
	}
	return int(decode(s, at, intWidth)), api.OK
}

// PutText encodes s behind its length.
func PutText(s string) (string, api.Errno) {
	if len(s) > maxText {
		return "", api.ErrLong
	}
	return encode(uint64(len(s)), lengthWidth) + s, api.OK
}

// GetText decodes the text at the offset at of s, and tells the offset after it.
func GetText(s string, at int) (string, int, api.Errno) {
	length, err := Get(s, at, lengthWidth)
	if err != api.OK {
		return "", 0, err
	}
	if length > maxText {
		return "", 0, api.ErrLong
	}
	start := at + lengthWidth
	if !follow(s, start, length) {
		return "", 0, api.ErrShort
	}
	end := start + length
	// A piece of s would keep all of s in memory.
	return strings.Clone(s[start:end]), end, api.OK
}

func isWidth(width int) bool {
	return width >= 1 && width <= maxWidth
}

func isOffset(s string, at int) bool {
	return at >= 0 && at <= len(s)
}

// fits takes a right width for granted.
func fits(n, width int) bool {
	return n >= 0 && n>>(8*width) == 0
}

// follow takes a right offset for granted: the length of s less at can't overflow then, however great count is.
func follow(s string, at, count int) bool {
	return len(s)-at >= count
}

// encode drops what u has above width bytes.
func encode(u uint64, width int) string {
	b := make([]byte, width)
	for i := range width {
		b[i] = byte(u >> (8 * (width - 1 - i)))
	}
	return string(b)
}

func decode(s string, at, width int) uint64 {
	u := uint64(0)
	for i := range width {
		u = u<<8 | uint64(s[at+i])
	}
	return u
}
