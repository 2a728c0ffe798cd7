// Package pack encodes counts, numbers, texts and frames as bytes, and takes them back: see ../../shared/DOC.md and doc/01-pack.md.
package pack

import (
	"strings"

	"freshet/api"
)

const (
	more       = 1 << 7 // added to each byte of a count that another one follows
	countBytes = 10     // as many groups of seven bits as 64 bits need
	sumBytes   = 4
)

// Count returns the encoding of a count.
func Count(n uint64) string {
	b := make([]byte, 0, countBytes)
	for n >= more {
		b = append(b, byte(n)|more)
		n >>= 7
	}
	return string(append(b, byte(n)))
}

// TakeCount returns the count at the beginning of s, and the rest of s.
func TakeCount(s string) (uint64, string, api.Errno) {
	n := uint64(0)
	for i := range len(s) {
		b := s[i]
		// The tenth group has one bit left of the 64; a last group of zeros would not be the shortest encoding.
		if i == countBytes-1 && b > 1 || i > 0 && b == 0 {
			return 0, "", api.ErrForm
		}
		n |= uint64(b&^more) << (7 * i)
		if b < more {
			return n, s[i+1:], api.OK
		}
	}
	return 0, "", api.ErrMore
}

// Number returns the encoding of a number.
func Number(n int64) string {
	if n < 0 {
		return Count(2*uint64(-1-n) + 1)
	}
	return Count(2 * uint64(n))
}

// TakeNumber returns the number at the beginning of s, and the rest of s.
func TakeNumber(s string) (int64, string, api.Errno) {
	n, rest, why := TakeCount(s)
	if why != api.OK {
		return 0, "", why
	}
	if n%2 == 1 {
		return -1 - int64(n/2), rest, api.OK
	}
	return int64(n / 2), rest, api.OK
}

// Text returns the encoding of a string.
func Text(t string) string {
	return concat(Count(uint64(len(t))), t)
}

// TakeText returns the string at the beginning of s, and the rest of s.
func TakeText(s string) (string, string, api.Errno) {
	n, rest, why := TakeCount(s)
	if why != api.OK {
		return "", "", why
	}
	if n > api.MaxData {
		return "", "", api.ErrLong
	}
	if uint64(len(rest)) < n {
		return "", "", api.ErrMore
	}
	return rest[:n], rest[n:], api.OK
}

// Frame returns the frame of a payload.
func Frame(payload string) (string, api.Errno) {
	if len(payload) > api.MaxData {
		return "", api.ErrLong
	}
	return concat(Text(payload), seal(payload)), api.OK
}

// TakeFrame returns the payload of the frame at the beginning of s, and the rest of s.
func TakeFrame(s string) (string, string, api.Errno) {
	payload, rest, why := TakeText(s)
	if why != api.OK {
		return "", "", why
	}
	if len(rest) < sumBytes {
		return "", "", api.ErrMore
	}
	if rest[:sumBytes] != seal(payload) {
		return "", "", api.ErrForm
	}
	return payload, rest[sumBytes:], api.OK
}

// seal is the checksum of a payload as a frame has it.
func seal(payload string) string {
	n := Sum(payload)
	b := make([]byte, sumBytes)
	for i := range b {
		b[i] = byte(n >> (8 * i))
	}
	return string(b)
}

func concat(parts ...string) string {
	return strings.Join(parts, "")
}
