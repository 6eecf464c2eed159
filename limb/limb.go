// Package limb is layer 1: arithmetic of 64-bit words (see shared/doc/01-limb.md).
package limb

const (
	halfBits = 32
	halfBase = 1 << halfBits
	halfMask = halfBase - 1
)

// Add is the low word of a + b + c, and the high word (0, 1 or 2).
func Add(a, b, c uint64) (uint64, uint64) {
	s := a + b
	t := s + c
	// A sum that wrapped round is less than each of its terms.
	return t, below(s, a) + below(t, s)
}

// Sub is a - b - c modulo 2^64, and how many times 2^64 was added (0, 1 or 2).
func Sub(a, b, c uint64) (uint64, uint64) {
	d := a - b
	return d - c, below(a, b) + below(d, c)
}

func below(a, b uint64) uint64 {
	if a < b {
		return 1
	}
	return 0
}

// Mul is the high word and the low word of a product.
func Mul(a, b uint64) (uint64, uint64) {
	a1, a0 := a>>halfBits, a&halfMask
	b1, b0 := b>>halfBits, b&halfMask
	// A product of two halves leaves room for two more halves, so none of these sums wraps round.
	low := a0 * b0
	mid := a1*b0 + low>>halfBits
	rest := a0*b1 + mid&halfMask
	return a1*b1 + mid>>halfBits + rest>>halfBits, rest<<halfBits | low&halfMask
}

// Len is the number of bits of a word (0 for 0).
func Len(x uint64) int {
	n := 0
	for step := 32; step > 0; step /= 2 {
		if x>>step != 0 {
			x >>= step
			n += step
		}
	}
	return n + int(x)
}

// Div is the quotient of hi * 2^64 + lo by d, rounded down, the remainder, and true; false if the quotient is not one word.
func Div(hi, lo, d uint64) (uint64, uint64, bool) {
	if hi >= d {
		return 0, 0, false
	}
	// With the highest bit of the divisor set, an estimate from its upper half is at most 2 too great.
	s := 64 - Len(d)
	d <<= s
	top := hi<<s | lo>>(64-s)
	lo <<= s
	q1, r := divHalf(top, lo>>halfBits, d)
	q0, r := divHalf(r, lo&halfMask, d)
	return q1<<halfBits | q0, r >> s, true
}

// divHalf divides r * 2^32 + next by d, where r is less than d, next is less than 2^32, and the highest bit of d is set.
func divHalf(r, next, d uint64) (uint64, uint64) {
	d1, d0 := d>>halfBits, d&halfMask
	q, rest := r/d1, r%d1
	// As r is less than d, the estimate is at most 2^32 + 1, and its product with a half does not wrap round.
	for q*d0 > rest<<halfBits|next {
		q--
		rest += d1
		if rest >= halfBase {
			break
		}
	}
	// The remainder is less than d, so that it is right although its terms wrap round.
	return q, r<<halfBits + next - q*d
}
