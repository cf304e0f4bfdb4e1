// Package num is layer 1: numbers and texts as bytes, each in one way alone (see shared/doc/01-num.md).
package num

import (
	"math"
	"math/bits"

	"runnel/api"
)

const (
	groupBits = 7
	groupMask = 1<<groupBits - 1
	more      = 1 << groupBits // added to a group's byte: it is not the last one
)

// Size: of a number, in bytes.
func Size(n uint64) int {
	// 0 has no bit of its own and is one group all the same.
	return (bits.Len64(n|1) + groupBits - 1) / groupBits
}

// Put: a number behind bytes.
func Put(b []byte, n uint64) []byte {
	size := Size(n)
	out := make([]byte, len(b), len(b)+size)
	copy(out, b)
	for i := range size {
		behind := size - 1 - i
		group := byte(n>>(groupBits*behind)) & groupMask
		if behind > 0 {
			group |= more
		}
		out = append(out, group)
	}
	return out
}

// Get: a number from a place on.
func Get(b []byte, at int) (n uint64, next int, e api.Errno) {
	if at < 0 || at > len(b) {
		return 0, 0, api.ErrRange
	}
	told := b[at:]
	for i := range len(told) {
		group := told[i]
		noughtAhead := i == 0 && group == more
		tooGreat := n > math.MaxUint64>>groupBits
		if noughtAhead || tooGreat {
			break
		}
		n = n<<groupBits | uint64(group&groupMask)
		if group < more {
			return n, at + i + 1, api.OK
		}
	}
	return 0, 0, api.ErrForm
}

// PutInt: one with a sign.
func PutInt(b []byte, n int) []byte {
	return Put(b, fold(n))
}

// GetInt: one with a sign.
func GetInt(b []byte, at int) (n, next int, e api.Errno) {
	folded, next, e := Get(b, at)
	if e != api.OK {
		return 0, 0, e
	}
	return unfold(folded), next, api.OK
}

// fold tells a number with a sign as one without: 2n, or -2n - 1 below 0.
// It goes by bits, for -n of the least int is too great.
func fold(n int) uint64 {
	if n < 0 {
		return uint64(^n)<<1 | 1
	}
	return uint64(n) << 1
}

func unfold(folded uint64) int {
	half := int(folded >> 1)
	if folded&1 == 1 {
		return ^half
	}
	return half
}

// PutText: a text.
func PutText(b []byte, s string) []byte {
	return append(Put(b, uint64(len(s))), s...)
}

// GetText: a text.
func GetText(b []byte, at, most int) (s string, next int, e api.Errno) {
	if most < 0 {
		return "", 0, api.ErrArg
	}
	size, from, e := Get(b, at)
	if e != api.OK {
		return "", 0, e
	}
	// Held against each other as uint64: what is said may be far beyond an int.
	if size > uint64(most) {
		return "", 0, api.ErrLong
	}
	if size > uint64(len(b)-from) {
		return "", 0, api.ErrForm
	}
	next = from + int(size)
	return string(b[from:next]), next, api.OK
}
