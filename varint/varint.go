// Package varint is layer 1: numbers, and texts, as few bytes. See shared/doc/01-varint.md.
package varint

import (
	"math/bits"

	"chartroom/api"
)

const (
	groupBits  = 7
	more       = 1 << groupBits // put in a byte behind which another group stands
	mostGroups = (64 + groupBits - 1) / groupBits
	mostAtLast = 1<<(64-(mostGroups-1)*groupBits) - 1 // what the last of so many groups may hold
)

// Put writes a number.
func Put(n uint64) []byte { return All(n) }

// All writes numbers.
func All(l ...uint64) []byte {
	size := 0
	for _, n := range l {
		size += Size(n)
	}
	b := make([]byte, 0, size)
	for _, n := range l {
		b = appendNumber(b, n)
	}
	return b
}

func appendNumber(b []byte, n uint64) []byte {
	for n >= more {
		b = append(b, byte(n)|more)
		n >>= groupBits
	}
	return append(b, byte(n))
}

// Text writes a text.
func Text(s string) []byte { return append(Put(uint64(len(s))), s...) }

// Size is how many bytes a number has.
func Size(n uint64) int {
	digits := max(bits.Len64(n), 1) // 0 has a group, too
	return (digits + groupBits - 1) / groupBits
}

// Take reads a number.
func Take(b []byte, at int) (n uint64, next int, e api.Errno) {
	if at < 0 || at >= len(b) {
		return 0, at, api.ErrShort
	}
	next, e = at, api.ErrShort // so it stays, if b ends in the number
groups:
	for i, c := range b[at:] {
		switch {
		case i > 0 && c == 0, i == mostGroups-1 && c > mostAtLast:
			e = api.ErrLong
			break groups
		case c < more:
			n |= uint64(c) << (i * groupBits)
			next, e = at+i+1, api.OK
			break groups
		}
		n |= uint64(c-more) << (i * groupBits)
	}
	if e != api.OK {
		return 0, at, e
	}
	return n, next, api.OK
}

// TakeText reads a text.
func TakeText(b []byte, at int) (s string, next int, e api.Errno) {
	size, from, e := Take(b, at)
	if e != api.OK {
		return "", at, e
	}
	// Held against what is left as uint64: as an int a great size could turn negative.
	if size > uint64(len(b)-from) {
		return "", at, api.ErrShort
	}
	next = from + int(size)
	return string(b[from:next]), next, api.OK
}

// TakeAll reads numbers.
func TakeAll(b []byte, at, many int) (l []uint64, next int, e api.Errno) {
	next = at
	for range many { // no room is made ahead: many may be far more than b can hold
		var n uint64
		n, next, e = Take(b, next)
		if e != api.OK {
			return nil, at, e
		}
		l = append(l, n)
	}
	return l, next, api.OK
}
