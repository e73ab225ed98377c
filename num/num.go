// Package num is layer 1: numbers as bytes. See shared/doc/01-num.md.
package num

import "cahier/api"

const (
	byteBits  = 8
	maxWidth  = 64 / byteBits
	groupBits = 7
	more      = 1 << groupBits                   // is added to a byte behind which another one stands
	maxVar    = (64 + groupBits - 1) / groupBits // bytes of the longest Var
	lastTop   = 1<<(64-groupBits*(maxVar-1)) - 1 // the most that the last byte of the longest Var can be
	below     = 1                                // the bit of a folded number that was below 0
)

// Fixed: a number in so many bytes, the highest first.
func Fixed(n uint64, width int) string {
	width = min(max(width, 1), maxWidth)
	out := make([]byte, width)
	for i := width - 1; i >= 0; i-- {
		out[i] = byte(n)
		n >>= byteBits
	}
	return string(out)
}

// Unfixed: the number of bytes; ErrArg.
func Unfixed(s string) (uint64, api.Errno) {
	if len(s) < 1 || len(s) > maxWidth {
		return 0, api.ErrArg
	}
	var n uint64
	for i := range len(s) {
		n = n<<byteBits | uint64(s[i])
	}
	return n, api.OK
}

// Var: a number in as few bytes as it needs.
func Var(n uint64) string {
	out := make([]byte, 0, maxVar)
	for n >= more {
		out = append(out, byte(n)|more)
		n >>= groupBits
	}
	return string(append(out, byte(n)))
}

// Unvar: the number at the beginning, how many bytes it has; ErrShort, ErrForm.
func Unvar(s string) (uint64, int, api.Errno) {
	var n uint64
	for i := range len(s) {
		b := s[i]
		if cannotStand(b, i) {
			return 0, 0, api.ErrForm
		}
		n |= uint64(b&^more) << (groupBits * i)
		if b < more {
			return n, i + 1, api.OK
		}
	}
	return 0, 0, api.ErrShort
}

// A last byte 0 would make the number longer than it needs to be; a tenth
// byte has room for the one bit alone that is left of 64, and so ends every
// number that comes as far.
func cannotStand(b byte, i int) bool {
	return i > 0 && b == 0 || i == maxVar-1 && b > lastTop
}

// Fold: a number with its sign as one without.
func Fold(n int) uint64 {
	twice := uint64(n) << 1
	if n < 0 {
		return ^twice
	}
	return twice
}

// Unfold: a folded number as it was.
func Unfold(n uint64) int {
	half := n >> 1
	if n&below != 0 {
		return int(^half)
	}
	return int(half)
}
