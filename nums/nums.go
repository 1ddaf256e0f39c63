// Package nums is layer 1: numbers and vectors as bytes. See doc/01-nums.md.
package nums

import (
	"iter"

	"lodestone/api"
)

const (
	groupBits = 7              // bits of a number that one byte tells
	more      = 1 << groupBits // what a byte has on top if another one follows
	maxBytes  = 9              // bytes of the greatest number that may be
)

// Put: a number in as few bytes of 7 bits as it can be; Get: back, and how many bytes. (P1.1)
func Put(n uint64) ([]byte, api.Errno) {
	if n > api.MaxNumber {
		return nil, api.ErrArg
	}
	return appendNumber(nil, n), api.OK
}

// Get: likewise.
func Get(b []byte) (uint64, int, api.Errno) {
	next := reader(b)
	return next()
}

// Fold: a number of either sign as one from 0 on, near 0 small; Unfold: back. (P1.2)
func Fold(n int64) uint64 {
	if n >= 0 {
		return 2 * uint64(n)
	}
	// One is added ahead of turning the sign: the least int64 has no opposite.
	return 2*uint64(-(n+1)) + 1
}

// Unfold: likewise.
func Unfold(n uint64) int64 {
	half := int64(n / 2)
	if n%2 == 0 {
		return half
	}
	return -half - 1
}

// PutItem: an item as bytes; GetItem: back. (P1.3)
func PutItem(x api.Item) ([]byte, api.Errno) {
	count := uint64(len(x.V))
	if x.ID > api.MaxNumber || !isDim(count) {
		return nil, api.ErrArg
	}
	b := appendNumber(nil, x.ID)
	b = appendNumber(b, count)
	for _, c := range x.V {
		b = append(b, byte(c))
	}
	return b, api.OK
}

// GetItem: likewise.
func GetItem(b []byte) (api.Item, int, api.Errno) {
	next := reader(b)
	id, _, e := next()
	if e != api.OK {
		return api.Item{}, 0, e
	}
	count, start, e := next()
	if e != api.OK {
		return api.Item{}, 0, e
	}
	if !isDim(count) {
		return api.Item{}, 0, api.ErrForm
	}
	if uint64(len(b)-start) < count {
		return api.Item{}, 0, api.ErrShort
	}
	end := start + int(count)
	return api.Item{ID: id, V: signed(b[start:end])}, end, api.OK
}

func isDim(count uint64) bool { return 1 <= count && count <= api.MaxDim }

// groups tells a number's bytes, one by one.
func groups(n uint64) iter.Seq[byte] {
	return func(yield func(byte) bool) {
		rest := n
		for rest >= more {
			if !yield(byte(rest%more) + more) {
				return
			}
			rest >>= groupBits
		}
		yield(byte(rest))
	}
}

func appendNumber(b []byte, n uint64) []byte {
	for c := range groups(n) {
		b = append(b, c)
	}
	return b
}

// reader hands out a function that reads the numbers of b in turn: each call goes on where the one before ended, and answers the number and the place behind it.
func reader(b []byte) func() (uint64, int, api.Errno) {
	place := 0
	return func() (uint64, int, api.Errno) {
		n, size, e := first(b[place:])
		if e != api.OK {
			return 0, 0, e
		}
		place += size
		return n, place, api.OK
	}
}

// first reads the number that b begins with, and tells how many bytes it has.
func first(b []byte) (uint64, int, api.Errno) {
	size, e := sizeOf(b)
	if e != api.OK {
		return 0, 0, e
	}
	if size > 1 && b[size-1] == 0 {
		// Fewer bytes would tell the same number.
		return 0, 0, api.ErrForm
	}
	n := join(b[:size])
	if n > api.MaxNumber {
		return 0, 0, api.ErrForm
	}
	return n, size, api.OK
}

// sizeOf looks at no more than maxBytes bytes, so that what join gets fits a uint64.
func sizeOf(b []byte) (int, api.Errno) {
	for i, c := range b[:min(len(b), maxBytes)] {
		if c < more {
			return i + 1, api.OK
		}
	}
	if len(b) < maxBytes {
		return 0, api.ErrShort
	}
	return 0, api.ErrForm
}

func join(b []byte) uint64 {
	n := uint64(0)
	for i, c := range b {
		n |= uint64(c%more) << (groupBits * i)
	}
	return n
}

func signed(b []byte) []int8 {
	v := make([]int8, len(b))
	for i, c := range b {
		v[i] = int8(c)
	}
	return v
}
