// Package nat is layer 2: natural numbers as lists of words, the least significant word first (see shared/doc/02-nat.md).
package nat

import "gradine/limb"

// Most is the greatest number of bits by which Shl shifts.
const Most = 1 << 16

const wordBits = 64

// size is the number of words of a list without the zero words at its end.
func size(a []uint64) int {
	n := len(a)
	for n > 0 && a[n-1] == 0 {
		n--
	}
	return n
}

// wordAt is word i of a list that is continued by zero words.
func wordAt(a []uint64, i int) uint64 {
	if i < len(a) {
		return a[i]
	}
	return 0
}

// cut shortens a list of this package's own making, where Trim makes a copy.
func cut(a []uint64) []uint64 {
	return a[:size(a)]
}

// Right reports whether a list is normalized: its last word is not 0.
func Right(a []uint64) bool {
	return size(a) == len(a)
}

// Trim is a number, normalized.
func Trim(a []uint64) []uint64 {
	r := make([]uint64, size(a))
	copy(r, a)
	return r
}

// Of is a word as a number.
func Of(x uint64) []uint64 {
	return cut([]uint64{x})
}

// Word is a number below 2^64 and true, or false.
func Word(a []uint64) (uint64, bool) {
	if size(a) > 1 {
		return 0, false
	}
	return wordAt(a, 0), true
}

// Cmp is -1, 0 or 1 if a is less than, equal to or greater than b.
func Cmp(a, b []uint64) int {
	n := max(size(a), size(b))
	for i := range n {
		x, y := wordAt(a, n-1-i), wordAt(b, n-1-i)
		if x < y {
			return -1
		}
		if x > y {
			return 1
		}
	}
	return 0
}

// Add is a sum.
func Add(a, b []uint64) []uint64 {
	n := max(size(a), size(b))
	r := make([]uint64, n+1)
	carry := uint64(0)
	for i := range n {
		r[i], carry = limb.Add(wordAt(a, i), wordAt(b, i), carry)
	}
	r[n] = carry
	return cut(r)
}

// Sub is a difference and true, or false if a is less than b.
func Sub(a, b []uint64) ([]uint64, bool) {
	if Cmp(a, b) < 0 {
		return nil, false
	}
	r := make([]uint64, size(a))
	borrow := uint64(0)
	for i := range r {
		r[i], borrow = limb.Sub(a[i], wordAt(b, i), borrow)
	}
	return cut(r), true
}

// Shl is a * 2^n; a negative n counts as 0, and an n above Most as Most.
func Shl(a []uint64, n int) []uint64 {
	n = min(max(n, 0), Most)
	skip, s := n/wordBits, n%wordBits
	k := size(a)
	r := make([]uint64, k+skip+1)
	for i := range k {
		r[i+skip] |= a[i] << s
		r[i+skip+1] = a[i] >> (wordBits - s)
	}
	return cut(r)
}

// Shr is a / 2^n, rounded down; a negative n counts as 0.
func Shr(a []uint64, n int) []uint64 {
	n = max(n, 0)
	skip, s := n/wordBits, n%wordBits
	k := size(a)
	if skip >= k {
		return nil
	}
	r := make([]uint64, k-skip)
	for i := range r {
		r[i] = a[i+skip]>>s | wordAt(a, i+skip+1)<<(wordBits-s)
	}
	return cut(r)
}

// Bits is the number of bits of a number (0 for 0).
func Bits(a []uint64) int {
	n := size(a)
	if n == 0 {
		return 0
	}
	return (n-1)*wordBits + limb.Len(a[n-1])
}

// Bit reports whether bit i of a number is 1 (false for negative i).
func Bit(a []uint64, i int) bool {
	if i < 0 {
		return false
	}
	return wordAt(a, i/wordBits)>>(i%wordBits)&1 == 1
}

// Even is the largest n for which 2^n divides a number (0 for 0).
func Even(a []uint64) int {
	for i := range Bits(a) {
		if Bit(a, i) {
			return i
		}
	}
	return 0
}
