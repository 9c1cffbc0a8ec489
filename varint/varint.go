// Package varint encodes integers and texts as bytes. It is layer 1: see shared/doc/01-varint.md.
package varint

import (
	"strings"

	"headgate/api"
)

// longest is how many groups of seven bits 64 bits need.
const longest = 10

// Put lays a number.
func Put(n int) string {
	u := uint64(n) << 1
	if n < 0 {
		u = ^u
	}
	var b [longest]byte
	k := 0
next:
	b[k] = byte(u & 127)
	u >>= 7
	if u > 0 {
		b[k] |= 128
		k++
		goto next
	}
	return string(b[:k+1])
}

// Take takes the number with which bytes begin, and tells what is behind it.
func Take(s string) (int, string, api.Errno) {
	var u uint64
	for k := 0; k < len(s) && k < longest; k++ {
		c := s[k]
		u |= uint64(c&127) << (7 * k)
		if c >= 128 {
			continue
		}
		// A last group of 0 was not needed; the tenth one has room for a single bit.
		if k > 0 && c == 0 || k == longest-1 && c > 1 {
			break
		}
		return number(u), s[k+1:], api.OK
	}
	return 0, "", api.ErrForm
}

// number tells the number that is laid as u.
func number(u uint64) int {
	if u&1 == 1 {
		return int(^(u >> 1))
	}
	return int(u >> 1)
}

// PutText lays a text.
func PutText(s string) string {
	return Put(len(s)) + s
}

// TakeText takes a text of so many bytes at most.
func TakeText(s string, most int) (string, string, api.Errno) {
	n, rest, e := Take(s)
	if e != api.OK || n < 0 || n > most || n > len(rest) {
		return "", "", api.ErrForm
	}
	return rest[:n], rest[n:], api.OK
}

// PutAll lays numbers, one behind the other.
func PutAll(l ...int) string {
	var b strings.Builder
	for _, n := range l {
		b.WriteString(Put(n))
	}
	return b.String()
}

// TakeAll takes so many numbers.
func TakeAll(s string, n int) ([]int, string, api.Errno) {
	if n < 0 || n > api.MaxRecords {
		return nil, "", api.ErrArg
	}
	l := make([]int, 0, n)
	for len(l) < n {
		v, rest, e := Take(s)
		if e != api.OK {
			return nil, "", e
		}
		l = append(l, v)
		s = rest
	}
	return l, s, api.OK
}
