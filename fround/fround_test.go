package fround_test

import (
	"cmp"
	"math"
	"math/big"
	"math/rand"
	"slices"
	"testing"

	"gradine/api"
	"gradine/fround"
)

const (
	sign     = 1 << 63
	infinity = 0x7ff0000000000000
	greatest = 0x7fefffffffffffff
	normal   = 0x0010000000000000 // the least normal double
	one      = 0x3ff0000000000000
	top      = 1<<64 - 1
)

// withSpare is a copy of a list with capacity behind it that a function could overwrite.
func withSpare(a []uint64) []uint64 {
	b := slices.Clone(a)
	for range 4 {
		b = append(b, 0x5ca1ab1e)
	}
	return b[:len(a)]
}

// number is what a list says, by a way that does not use the program.
func number(a []uint64) *big.Int {
	words := make([]big.Word, len(a))
	for i, w := range a {
		words[i] = big.Word(w)
	}
	return new(big.Int).SetBits(words)
}

// list is the normalized list of a number without its sign.
func list(n *big.Int) []uint64 {
	var a []uint64
	for _, w := range n.Bits() {
		a = append(a, uint64(w))
	}
	return withSpare(a)
}

// exact is the valid number of a value, by a way that does not use the program.
func exact(v *big.Rat) api.Rat {
	return api.Rat{Neg: v.Sign() < 0, Num: list(v.Num()), Den: list(v.Denom())}
}

// equal compares fields, word by word.
func equal(a, b api.Rat) bool {
	return a.Neg == b.Neg && slices.Equal(a.Num, b.Num) && slices.Equal(a.Den, b.Den)
}

// twoTo is 2^e, by a way that does not use the program.
func twoTo(e int) *big.Rat {
	v := new(big.Rat).SetInt(new(big.Int).Lsh(big.NewInt(1), uint(max(e, -e))))
	if e < 0 {
		v.Inv(v)
	}
	return v
}

// times is n * 2^e, by a way that does not use the program.
func times(n *big.Int, e int) *big.Rat {
	v := new(big.Rat).SetInt(n)
	return v.Mul(v, twoTo(e))
}

// value is the exact value of a finite double, by a way that does not use the program.
func value(b uint64) *big.Rat {
	return new(big.Rat).SetFloat64(math.Float64frombits(b))
}

// isNearest is the definition of the nearest double, for a value and a double that are not negative: as greater doubles are greater words, no double is nearer if neither neighbour is.
func isNearest(b uint64, v *big.Rat) bool {
	if v.Cmp(new(big.Rat).Sub(twoTo(1024), twoTo(970))) >= 0 {
		return b == infinity
	}
	if b > greatest {
		return false
	}
	gap := distance(b, v)
	if b > 0 && !decided(b, gap, distance(b-1, v)) {
		return false
	}
	return b == greatest || decided(b, gap, distance(b+1, v))
}

func distance(b uint64, v *big.Rat) *big.Rat {
	d := new(big.Rat).Sub(value(b), v)
	return d.Abs(d)
}

// decided reports whether a double is chosen before a neighbour, with their distances.
func decided(b uint64, gap, other *big.Rat) bool {
	c := gap.Cmp(other)
	return c < 0 || c == 0 && b%2 == 0
}

// wantNearest holds a double with a sign against the value without it.
func wantNearest(t *testing.T, what string, got uint64, neg bool, v *big.Rat) {
	t.Helper()
	if (got>>63 == 1) != neg || !isNearest(got&^sign, v) {
		t.Errorf("%s, sign %t, of %s is %x", what, neg, v.FloatString(30), got)
	}
}

// signs are both of them.
func signs() [2]bool {
	return [2]bool{false, true}
}

// wordValue is m * 2^e, or (m + 1/2) * 2^e.
func wordValue(m *big.Int, e int, more bool) *big.Rat {
	v := times(m, e)
	if more {
		v.Add(v, twoTo(e-1))
	}
	return v
}

// checkWord holds Word, and Of a list of one word, against the definition.
func checkWord(t *testing.T, m uint64, e int) {
	t.Helper()
	v := wordValue(new(big.Int).SetUint64(m), e, false)
	for _, neg := range signs() {
		b := fround.Word(neg, m, e)
		wantNearest(t, "Word", b, neg, v)
		if got := fround.Of(neg, []uint64{m}, e, false); got != b {
			t.Errorf("Of(%t, %#x, %d, false) = %x, Word is %x", neg, m, e, got, b)
		}
	}
}

// checkOf holds Of with and without a half against the definition.
func checkOf(t *testing.T, m *big.Int, e int) {
	t.Helper()
	for _, more := range signs() {
		v := wordValue(m, e, more)
		for _, neg := range signs() {
			wantNearest(t, "Of", fround.Of(neg, list(m), e, more), neg, v)
		}
	}
}

// checkRat holds FromRat against the definition; 0 has no sign.
func checkRat(t *testing.T, v *big.Rat) {
	t.Helper()
	size := new(big.Rat).Abs(v)
	wantNearest(t, "FromRat", fround.FromRat(exact(size)), false, size)
	wantNearest(t, "FromRat", fround.FromRat(exact(size.Neg(size))), v.Sign() != 0, new(big.Rat).Abs(v))
}

// Promise 10.1, with results that are written out.
func TestWordExamples(t *testing.T) {
	for _, c := range []struct {
		m    uint64
		e    int
		want uint64
	}{
		{0, 0, 0}, {0, -2000, 0}, {0, 2000, 0}, {0, math.MinInt, 0}, {0, math.MaxInt, 0},
		{1, 0, one}, {3, 0, 0x4008000000000000}, {10, -1, 0x4014000000000000}, {1 << 63, -63, one},
		{1<<53 + 1, 0, 0x4340000000000000}, {1<<53 + 2, 0, 0x4340000000000001}, {1<<53 + 3, 0, 0x4340000000000002},
		{1<<54 + 2, 0, 0x4350000000000000}, {1<<54 + 3, 0, 0x4350000000000001}, {1<<54 + 5, 0, 0x4350000000000001},
		{1<<54 + 6, 0, 0x4350000000000002}, {1<<54 - 1, 0, 0x4350000000000000}, {1<<54 - 2, 0, 0x434fffffffffffff},
		{1<<63 + 1<<10, 0, 0x43e0000000000000}, {1<<63 + 1<<10 + 1, 0, 0x43e0000000000001}, {1<<63 + 1<<10 - 1, 0, 0x43e0000000000000},
		{1<<63 + 3<<10 - 1, 0, 0x43e0000000000001}, {1<<63 + 3<<10, 0, 0x43e0000000000002},
		{top, 0, 0x43f0000000000000}, {1<<64 - 1<<10, 0, 0x43f0000000000000}, {1<<64 - 1<<10 - 1, 0, 0x43efffffffffffff},
		{1, -1074, 1}, {1, -1075, 0}, {2, -1075, 1}, {3, -1075, 2}, {5, -1075, 2}, {1, -1076, 0}, {2, -1076, 0}, {3, -1076, 1},
		{5, -1076, 1}, {6, -1076, 2}, {7, -1076, 2}, {1 << 63, -1138, 0}, {1<<63 + 1, -1138, 1}, {top, -1138, 1},
		{1 << 63, -1137, 1}, {3 << 62, -1137, 2}, {3<<62 - 1, -1137, 1}, {top, -1139, 0}, {top, -1140, 0},
		{1<<52 - 1, -1074, 0x000fffffffffffff}, {1 << 52, -1074, normal}, {1<<53 - 1, -1075, normal}, {1<<53 - 3, -1075, 0x000ffffffffffffe},
		{1<<54 - 3, -1076, 0x000fffffffffffff}, {1<<54 - 1, -1076, normal}, {1, -1022, normal}, {1<<53 + 1, -1075, normal},
		{1<<53 - 1, 971, greatest}, {1<<54 - 1, 970, infinity}, {1<<55 - 3, 969, greatest}, {1<<55 - 2, 969, infinity},
		{1<<64 - 1<<10, 960, infinity}, {1<<64 - 1<<10 - 1, 960, greatest}, {1<<64 - 1<<11, 960, greatest}, {top, 960, infinity},
		{1<<53 - 1, 972, infinity}, {1, 1023, 0x7fe0000000000000}, {1, 1024, infinity}, {1, 1025, infinity},
		{1, math.MaxInt, infinity}, {top, math.MaxInt, infinity}, {1, math.MinInt, 0}, {top, math.MinInt, 0},
		{1, 1 << 32, infinity}, {1, 1<<32 - 1000, infinity}, {top, -1 << 32, 0}, {top, -1<<32 + 1000, 0},
	} {
		for _, neg := range signs() {
			want := c.want
			if neg {
				want |= sign
			}
			if b := fround.Word(neg, c.m, c.e); b != want {
				t.Errorf("Word(%t, %#x, %d) = %x, want %x", neg, c.m, c.e, b, want)
			}
			if b := fround.Of(neg, []uint64{c.m, 0, 0}, c.e, false); b != want {
				t.Errorf("Of(%t, %#x, %d, false) = %x, want %x", neg, c.m, c.e, b, want)
			}
		}
	}
}

// significands are 0, ones of one bit, around 53 and 54 bits, of 64 bits, with halves to drop, and random ones.
func significands() []uint64 {
	out := []uint64{0, 3, 5, 6, 7}
	for d := range uint64(9) {
		out = append(out, 1<<53-4+d, 1<<54-4+d, 1<<55-4+d, 1<<63-4+d, top-d)
	}
	r := rand.New(rand.NewSource(1))
	for k := range 64 {
		out = append(out, 1<<k, 1<<k|1, ^uint64(0)>>k, ^uint64(0)<<k, r.Uint64()>>k, r.Uint64()<<k)
	}
	for d := range uint64(3) {
		out = append(out, 1<<64-1<<10-1+d, 1<<64-3<<10-1+d, 1<<63+1<<10-1+d, 1<<63+3<<10-1+d)
	}
	return out
}

// Promise 10.1: each significand at the exponents where doubles begin, become normal and end, and between.
func TestWord(t *testing.T) {
	for _, m := range significands() {
		for _, e := range []int{-1139, -1138, -1137, -1128, -1127, -1087, -1086, -1085, -1076, -1075, -1074, -1073, -600, -1, 0, 1, 500, 959, 960, 961, 969, 970, 971, 972, 1023, 1024} {
			checkWord(t, m, e)
		}
	}
}

// Promise 10.1: some significands at each exponent, past both ends too.
func TestWordAtEachExponent(t *testing.T) {
	for e := -1150; e <= 1030; e++ {
		checkWord(t, 1, e)
		checkWord(t, 1<<54-1, e)
		checkWord(t, 1<<63+1<<10, e)
		checkWord(t, top, e)
	}
}

// Promise 10.1: all short significands where the doubles are so near to 0 that few bits are left.
func TestWordNearZero(t *testing.T) {
	for m := range uint64(70) {
		for e := -1082; e <= -1072; e++ {
			checkWord(t, m, e)
		}
	}
}

// Promise 10.1: random ones.
func TestWordRandom(t *testing.T) {
	r := rand.New(rand.NewSource(2))
	for range 10000 {
		checkWord(t, r.Uint64()>>r.Intn(64), r.Intn(2200)-1150)
	}
}

// places are doubles without a sign; each has a neighbour above it (the infinity above the greatest).
func places() []uint64 {
	out := []uint64{
		0, 1, 2, 3, normal/2 - 1, normal / 2, normal - 2, normal - 1, normal, normal + 1, 2*normal - 2, 2*normal - 1, 2 * normal, 2*normal + 1,
		one - 2, one - 1, one, one + 1, 0x4330000000000000, 0x433fffffffffffff, 0x4340000000000000, 0x43dfffffffffffff,
		greatest - 2, greatest - 1, greatest,
	}
	r := rand.New(rand.NewSource(3))
	for field := uint64(0); field < 2047; field += 50 {
		out = append(out, field<<52, field<<52|r.Uint64()>>12)
	}
	return out
}

// middle is what lies exactly between a double and the next one, as an odd number and an exponent.
func middle(b uint64) (*big.Int, int) {
	v := value(b)
	if b == greatest {
		v.Add(v, twoTo(970))
	} else {
		v.Add(v, value(b+1))
		v.Mul(v, big.NewRat(1, 2))
	}
	if !v.IsInt() {
		return v.Num(), 1 - v.Denom().BitLen()
	}
	e := int(v.Num().TrailingZeroBits())
	return new(big.Int).Rsh(v.Num(), uint(e)), e
}

// aroundMiddle holds what a function returns at, just below and just above a middle against the two doubles beside it.
func aroundMiddle(t *testing.T, what string, below uint64, at, under, over uint64) {
	t.Helper()
	even := below + below%2
	if at != even || under != below || over != below+1 {
		t.Errorf("%s around the middle of %x and the next: %x, %x, %x", what, below, under, at, over)
	}
}

// Promise 10.1: between two doubles the even one is chosen, whether it lies below or above; the least that is less or more decides, however long the number is.
func TestOfMiddles(t *testing.T) {
	for _, b := range places() {
		m, e := middle(b)
		for _, k := range []uint{2, 9, 10, 11, 12, 63, 64, 65, 127, 128, 200, 1000} {
			long := new(big.Int).Lsh(m, k)
			one := big.NewInt(1)
			under, over := list(new(big.Int).Sub(long, one)), list(new(big.Int).Add(long, one))
			at := fround.Of(false, list(long), e-int(k), false)
			aroundMiddle(t, "Of", b, at, fround.Of(false, under, e-int(k), false), fround.Of(false, over, e-int(k), false))
			// The half decides too: with it, a number of which only the half is missing lies below, and the middle itself lies above.
			aroundMiddle(t, "Of with a half", b, at, fround.Of(false, under, e-int(k), true), fround.Of(false, list(long), e-int(k), true))
		}
		// The middle of two doubles is half of an odd number, which more can say.
		half := new(big.Int).Rsh(m, 1)
		if got := fround.Of(true, list(half), e+1, true); got != sign|(b+b%2) {
			t.Errorf("Of(true, %v, %d, true) = %x", half, e+1, got)
		}
	}
}

// Promise 10.1: the same for exact numbers, with remainders that no power of 2 divides.
func TestFromRatMiddles(t *testing.T) {
	for _, b := range places() {
		m, e := middle(b)
		v := times(m, e)
		for _, k := range []int{3, 40, 64, 65, 130, 700, 1200} {
			// The distance is small against the middle, and its denominator is not a power of 2.
			tiny := new(big.Rat).Mul(v, twoTo(-60-k))
			tiny.Mul(tiny, big.NewRat(1, 3))
			under, over := new(big.Rat).Sub(v, tiny), new(big.Rat).Add(v, tiny)
			aroundMiddle(t, "FromRat", b, fround.FromRat(exact(v)), fround.FromRat(exact(under)), fround.FromRat(exact(over)))
			neg := func(x *big.Rat) uint64 { return fround.FromRat(exact(new(big.Rat).Neg(x))) ^ sign }
			aroundMiddle(t, "FromRat of the negative", b, neg(v), neg(under), neg(over))
		}
	}
}

// Promise 10.1: remainders of a division that are as small and as great as they can be.
func TestFromRatRemainders(t *testing.T) {
	for _, den := range []*big.Int{big.NewInt(3), big.NewInt(5), big.NewInt(1<<62 - 1), number([]uint64{1, 1}), number([]uint64{top, top, 1})} {
		for _, b := range []uint64{0x4340000000000000, 0x4340000000000001} { // 2^53 and the next one, with 2^53 + 1 and 2^53 + 3 above them
			m, _ := middle(b)
			for _, k := range []uint{0, 10, 11, 12, 64, 100} {
				at := new(big.Int).Lsh(m, k)
				at.Mul(at, den)
				scaled := func(d int64) uint64 {
					v := new(big.Rat).SetFrac(new(big.Int).Add(at, big.NewInt(d)), den)
					return fround.FromRat(exact(v)) - uint64(k)<<52
				}
				aroundMiddle(t, "FromRat", b, scaled(0), scaled(-1), scaled(1))
			}
		}
	}
}

// naturals are natural numbers of one word and of several words, 0 among them.
func naturals() []*big.Int {
	var out []*big.Int
	for _, a := range [][]uint64{
		{}, {1}, {2}, {3}, {1<<53 - 1}, {1 << 53}, {1<<53 + 1}, {1 << 63}, {top}, {0, 1}, {1, 1}, {top, 1}, {top, top}, {0, 1 << 63}, {1, 1 << 63},
		{0, 1<<63 + 1<<10}, {1, 1<<63 + 1<<10}, {top, 1<<63 + 1<<10 - 1}, {0, 1<<63 + 3<<10}, {0, 0, 1<<63 + 1<<10}, {1, 0, 1<<63 + 1<<10}, {0, 1, 1<<63 + 1<<10},
		{0, 1<<53 + 1}, {1, 1<<53 + 1}, {0, 1<<52 + 1}, {1 << 63, 1<<53 - 1}, {1<<63 + 1, 1<<53 - 1}, {1<<63 - 1, 1<<53 - 1}, {1 << 63, 1<<53 - 2},
		{0, 0, 1}, {0, 0, 0, 0, 1}, {top, top, top, top},
	} {
		out = append(out, number(a))
	}
	r := rand.New(rand.NewSource(4))
	for range 40 {
		a := make([]uint64, 1+r.Intn(6))
		for i := range a {
			a[i] = r.Uint64() >> r.Intn(64)
		}
		out = append(out, number(a))
	}
	return out
}

// Promise 10.1.
func TestOf(t *testing.T) {
	for _, m := range naturals() {
		n := m.BitLen()
		for _, e := range []int{-1 - n, -n, -64, -1, 0, 1, 64, -1076 - n, -1075 - n, -1074 - n, -1073 - n, -1050 - n, -1022 - n, -1021 - n, -1075, -1074, 969, 970, 971, 1022 - n, 1023 - n, 1024 - n, 1025 - n} {
			checkOf(t, m, e)
		}
	}
}

// Promise 10.1, with results that are written out: 0 with a half, exponents of any size, and words at the end that do not count.
func TestOfExamples(t *testing.T) {
	long := make([]uint64, 40)
	long[39] = 1 // 2^2496
	odd := slices.Clone(long)
	odd[0] = 1
	for _, c := range []struct {
		m    []uint64
		e    int
		more bool
		want uint64
	}{
		{nil, 0, false, 0}, {[]uint64{}, 5, false, 0}, {[]uint64{0, 0}, -5, false, 0},
		{nil, math.MaxInt, false, 0}, {nil, math.MinInt, false, 0}, {[]uint64{0}, math.MaxInt, false, 0},
		{nil, 1, true, one}, {[]uint64{}, 1, true, one}, {[]uint64{0, 0}, 1, true, one}, {nil, 0, true, 0x3fe0000000000000},
		{nil, -1073, true, 1}, {nil, -1074, true, 0}, {[]uint64{1}, -1074, true, 2}, {[]uint64{2}, -1074, true, 2}, {[]uint64{1}, -1075, true, 1},
		{nil, 1024, true, 0x7fe0000000000000}, {nil, 1025, true, infinity},
		{nil, math.MaxInt, true, infinity}, {nil, math.MinInt, true, 0},
		{[]uint64{1}, math.MaxInt, true, infinity}, {[]uint64{top, top}, math.MaxInt, true, infinity},
		{[]uint64{1}, math.MinInt, true, 0}, {[]uint64{top, top}, math.MinInt, true, 0}, {[]uint64{top, top}, math.MinInt, false, 0},
		{[]uint64{1, 0}, 1, true, 0x4008000000000000}, {[]uint64{1<<53 - 1, 0}, 0, true, 0x4340000000000000}, {[]uint64{1<<53 - 2}, 0, true, 0x433ffffffffffffe},
		{[]uint64{1<<53 + 1, 0, 0}, 0, true, 0x4340000000000001}, {[]uint64{1 << 53}, 0, true, 0x4340000000000000},
		{[]uint64{1<<63 + 1<<10}, 0, true, 0x43e0000000000001}, {[]uint64{1<<63 + 1<<10 - 1}, 0, true, 0x43e0000000000000},
		{[]uint64{1<<64 - 1<<10 - 1}, 960, true, greatest}, {[]uint64{1<<64 - 1<<10}, 960, true, infinity},
		{[]uint64{1<<53 - 1}, 971, true, infinity}, {[]uint64{1<<53 - 2}, 971, true, greatest - 1},
		{[]uint64{0, 1}, 0, false, 0x43f0000000000000}, {[]uint64{0, 1}, 960, false, infinity}, {[]uint64{0, 1}, 959, false, 0x7fe0000000000000},
		{[]uint64{0, 1, 0}, -1138, false, 1}, {[]uint64{0, 1}, -1139, false, 0}, {[]uint64{1, 1}, -1139, false, 1}, {[]uint64{0, 1}, -1139, true, 1},
		{long, -2496, false, one}, {long, -2496, true, one}, {long, -2496 - 1074, false, 1}, {long, -2496 - 1075, false, 0}, {long, -2496 - 1075, true, 1}, {odd, -2496 - 1075, false, 1},
		{long, -2496 + 1023, false, 0x7fe0000000000000}, {long, -2496 + 1024, false, infinity}, {long, 0, false, infinity}, {long, math.MinInt, true, 0}, {long, math.MaxInt, false, infinity},
	} {
		for _, neg := range signs() {
			want := c.want
			if neg {
				want |= sign
			}
			if b := fround.Of(neg, withSpare(c.m), c.e, c.more); b != want {
				t.Errorf("Of(%t, %v, %d, %t) = %x, want %x", neg, c.m, c.e, c.more, b, want)
			}
		}
	}
}

// Promise 10.1: numbers so long that shifting them by 65536 bits at most is not enough.
func TestVeryLong(t *testing.T) {
	long := make([]uint64, 1<<15)
	long[len(long)-1] = 3
	n := 64 * (len(long) - 1)
	for _, c := range []struct {
		e    int
		more bool
		want uint64
	}{
		{-n, false, 0x4008000000000000}, {-n - 1076, false, 1}, {-n - 1077, false, 0}, {-n - 1075, false, 2}, {-n - 1075, true, 2},
		{-n + 1023, false, infinity}, {-n + 1022, true, 0x7fe8000000000000}, {-n - 1074, true, 3},
	} {
		if b := fround.Of(false, long, c.e, c.more); b != c.want {
			t.Errorf("Of(3 * 2^%d, %d, %t) = %x, want %x", n, c.e, c.more, b, c.want)
		}
	}
	odd := slices.Clone(long)
	odd[0] = 1
	for _, c := range []struct {
		num, den []uint64
		want     uint64
	}{
		{odd, []uint64{1}, infinity}, {[]uint64{1}, odd, 0}, {odd, long, one}, {long, odd, one}, {odd, odd[1:], 0x43f0000000000000},
	} {
		for _, neg := range signs() {
			want := c.want
			if neg {
				want |= sign
			}
			if b := fround.FromRat(api.Rat{Neg: neg, Num: c.num, Den: c.den}); b != want {
				t.Errorf("FromRat with %d and %d words = %x, want %x", len(c.num), len(c.den), b, want)
			}
		}
	}
}

// Promise 10.1: the least int has no negative among the ints.
func TestFromInt(t *testing.T) {
	ints := []int{math.MinInt, math.MinInt + 1, math.MaxInt - 1, math.MaxInt, 1 << 32, -1 << 32}
	for d := -5; d <= 5; d++ {
		ints = append(ints, d, 1<<53+d, -1<<53+d, 1<<54+d, -1<<54+d, 1<<62+1<<9+d, -1<<62-1<<9+d, 1<<62+3<<9+d)
	}
	r := rand.New(rand.NewSource(5))
	for range 2000 {
		ints = append(ints, int(r.Uint64())>>r.Intn(64))
	}
	for _, n := range ints {
		if b := fround.FromInt(n); b != math.Float64bits(float64(n)) {
			t.Errorf("FromInt(%d) = %x", n, b)
		}
		size := new(big.Rat).SetInt64(int64(n))
		wantNearest(t, "FromInt", fround.FromInt(n), n < 0, size.Abs(size))
	}
}

// Promise 10.1, with results that are written out.
func TestFromIntExamples(t *testing.T) {
	for _, c := range []struct {
		n    int
		want uint64
	}{
		{0, 0}, {1, one}, {-1, one | sign}, {-2, 0xc000000000000000}, {3, 0x4008000000000000},
		{math.MinInt, 0xc3e0000000000000}, {math.MinInt + 1, 0xc3e0000000000000}, {math.MaxInt, 0x43e0000000000000},
		{1<<53 + 1, 0x4340000000000000}, {-1<<53 - 3, 0xc340000000000002},
	} {
		if b := fround.FromInt(c.n); b != c.want {
			t.Errorf("FromInt(%d) = %x, want %x", c.n, b, c.want)
		}
	}
}

// Promise 10.1, with results that are written out.
func TestFromRatExamples(t *testing.T) {
	for _, c := range []struct {
		num, den []uint64
		want     uint64
	}{
		{[]uint64{1}, []uint64{3}, 0x3fd5555555555555},
		{[]uint64{2}, []uint64{3}, 0x3fe5555555555555},
		{[]uint64{1}, []uint64{10}, 0x3fb999999999999a},
		{[]uint64{1}, []uint64{1}, one},
		{[]uint64{1}, []uint64{0, 1}, 0x3bf0000000000000},
		{[]uint64{0, 1}, []uint64{1}, 0x43f0000000000000},
		{[]uint64{0, 1}, []uint64{3}, 0x43d5555555555555},
		{[]uint64{0, 1}, []uint64{1, 1}, one},
		{[]uint64{1, 1}, []uint64{0, 1}, one},
		{[]uint64{1<<53 + 1}, []uint64{1}, 0x4340000000000000},
		{[]uint64{1<<53 + 3}, []uint64{1}, 0x4340000000000002},
		{[]uint64{1<<54 + 3}, []uint64{2}, 0x4340000000000001},
	} {
		for _, neg := range signs() {
			want := c.want
			if neg {
				want |= sign
			}
			if b := fround.FromRat(api.Rat{Neg: neg, Num: c.num, Den: c.den}); b != want {
				t.Errorf("FromRat(%v / %v) = %x, want %x", c.num, c.den, b, want)
			}
		}
	}
	for _, zero := range []api.Rat{{Den: []uint64{1}}, {Num: []uint64{}, Den: []uint64{1}}} {
		if b := fround.FromRat(zero); b != 0 {
			t.Errorf("FromRat(0) = %x", b)
		}
	}
}

// values are exact numbers of one word and of several words, at the edges of the doubles and between.
func values() []*big.Rat {
	var out []*big.Rat
	for num := int64(-12); num <= 12; num++ {
		for den := int64(1); den <= 11; den++ {
			out = append(out, big.NewRat(num, den))
		}
	}
	for _, e := range []int{-1200, -1077, -1076, -1075, -1074, -1073, -1023, -1022, -1021, -64, 64, 970, 971, 1022, 1023, 1024, 1025, 1200} {
		for _, f := range []*big.Rat{big.NewRat(1, 1), big.NewRat(2, 3), big.NewRat(4, 3), big.NewRat(1<<62-1, 1<<62), big.NewRat(1<<62+1, 1<<62-1), big.NewRat(-1, 1), big.NewRat(-5, 7)} {
			out = append(out, new(big.Rat).Mul(f, twoTo(e)))
		}
	}
	// What separates the finite doubles from the infinity, and 0 from the least double, with numbers beside it.
	for _, edge := range []*big.Rat{new(big.Rat).Sub(twoTo(1024), twoTo(970)), twoTo(-1075), new(big.Rat).Sub(twoTo(-1022), twoTo(-1075))} {
		for _, k := range []int{50, 64, 130} {
			for _, c := range []int64{-1, 0, 1} {
				f := new(big.Rat).Add(big.NewRat(1, 1), new(big.Rat).Mul(big.NewRat(c, 3), twoTo(-k)))
				v := new(big.Rat).Mul(edge, f)
				out = append(out, v, new(big.Rat).Neg(v))
			}
		}
	}
	r := rand.New(rand.NewSource(6))
	for _, num := range naturals() {
		for range 6 {
			den := new(big.Int).Add(naturals()[r.Intn(len(naturals()))], big.NewInt(1))
			out = append(out, new(big.Rat).SetFrac(num, den))
		}
	}
	return out
}

// Promise 10.1.
func TestFromRat(t *testing.T) {
	for _, v := range values() {
		checkRat(t, v)
	}
}

// Promises 10.1 and 10.3: random numbers of all sizes; no finite double is nearer.
func TestFromRatRandom(t *testing.T) {
	r := rand.New(rand.NewSource(7))
	for range 5000 {
		num := number([]uint64{r.Uint64() >> r.Intn(64), r.Uint64() >> r.Intn(64), r.Uint64() >> r.Intn(64)})
		den := number([]uint64{r.Uint64()>>r.Intn(64) | 1, r.Uint64() >> r.Intn(64)})
		v := new(big.Rat).SetFrac(num, den)
		checkRat(t, v.Mul(v, twoTo(r.Intn(2300)-1250)))
	}
}

// anyDoubles are finite doubles with and without a sign.
func anyDoubles() []uint64 {
	out := places()
	r := rand.New(rand.NewSource(8))
	for field := range uint64(2047) {
		out = append(out, field<<52|r.Uint64()>>12)
	}
	for k := range 53 {
		out = append(out, 1<<k, 1<<k-1, one|(1<<52-1<<k))
	}
	for _, b := range slices.Clone(out) {
		out = append(out, b|sign)
	}
	return out
}

// Promise 10.2: the fields of a value have only one valid form, so this also says that the number is valid.
func TestToRat(t *testing.T) {
	for _, b := range anyDoubles() {
		if x, e := fround.ToRat(b); e != api.OK || !equal(x, exact(value(b))) {
			t.Errorf("ToRat(%x) = %v, %v", b, x, e)
		}
	}
}

// Promise 10.2, with results that are written out.
func TestToRatExamples(t *testing.T) {
	least := make([]uint64, 17)
	least[16] = 1 << (1074 - 16*64)
	large := make([]uint64, 16)
	large[15] = 1<<64 - 1<<11
	for _, c := range []struct {
		b    uint64
		want api.Rat
	}{
		{0, api.Rat{Den: []uint64{1}}},
		{sign, api.Rat{Den: []uint64{1}}},
		{one, api.Rat{Num: []uint64{1}, Den: []uint64{1}}},
		{0xc004000000000000, api.Rat{Neg: true, Num: []uint64{5}, Den: []uint64{2}}},
		{0x3fd5555555555555, api.Rat{Num: []uint64{0x15555555555555}, Den: []uint64{1 << 54}}},
		{0x43f0000000000000, api.Rat{Num: []uint64{0, 1}, Den: []uint64{1}}},
		{1, api.Rat{Num: []uint64{1}, Den: least}},
		{greatest | sign, api.Rat{Neg: true, Num: large, Den: []uint64{1}}},
	} {
		if x, e := fround.ToRat(c.b); e != api.OK || !equal(x, c.want) {
			t.Errorf("ToRat(%x) = %v, %v, want %v", c.b, x, e, c.want)
		}
	}
}

// Promise 10.2 and R2: there is no number beside the error.
func TestToRatOfNoNumber(t *testing.T) {
	for _, b := range []uint64{infinity, infinity + 1, 0x7ff7ffffffffffff, 0x7ff8000000000000, 0x7ff8000000000001, 0x7fffffffffffffff} {
		for _, b := range []uint64{b, b | sign} {
			if x, e := fround.ToRat(b); e != api.ErrArg || !equal(x, api.Rat{}) {
				t.Errorf("ToRat(%x) = %v, %v", b, x, e)
			}
		}
	}
}

// Promise 10.3: from a double to its value and back.
func TestFromRatUndoesToRat(t *testing.T) {
	for _, b := range anyDoubles() {
		want := b
		if b == sign {
			want = 0
		}
		x, _ := fround.ToRat(b)
		if got := fround.FromRat(x); got != want {
			t.Errorf("FromRat(ToRat(%x)) = %x", b, got)
		}
	}
}

// rank numbers the doubles in their order, with 0 the same with and without a sign.
func rank(b uint64) int {
	if b>>63 == 1 {
		return -int(b &^ sign)
	}
	return int(b)
}

// Promise 10.3: no number has a smaller double than a smaller number.
func TestMonotone(t *testing.T) {
	all := values()
	for _, b := range places() {
		m, e := middle(b)
		v := times(m, e)
		tiny := new(big.Rat).Mul(v, twoTo(-90))
		all = append(all, v, new(big.Rat).Add(v, tiny), new(big.Rat).Sub(v, tiny), new(big.Rat).Neg(v), value(b))
	}
	slices.SortFunc(all, func(v, w *big.Rat) int { return v.Cmp(w) })
	ranks := make([]int, len(all))
	for i, v := range all {
		ranks[i] = rank(fround.FromRat(exact(v)))
	}
	if !slices.IsSortedFunc(ranks, cmp.Compare[int]) {
		t.Error(ranks)
	}
	if len(slices.Compact(ranks)) < 400 {
		t.Error("too few doubles to tell")
	}
}

// R1: exact numbers that are not valid are answered somehow.
func TestNotValid(t *testing.T) {
	many := make([]uint64, 3000)
	many[2999] = 1
	lists := [][]uint64{nil, {}, {0}, {0, 0, 0}, {1}, {1, 0}, {2}, {4, 0}, {6}, {top}, {top, 0}, {0, 1}, {0, 12, 0}, {top, top}, make([]uint64, 3000), many, append(many, 0)}
	for _, num := range lists {
		for _, den := range lists {
			for _, neg := range signs() {
				x := api.Rat{Neg: neg, Num: num, Den: den}
				if a, b := fround.FromRat(x), fround.FromRat(x); a != b {
					t.Errorf("FromRat of %d and %d words is %x and %x", len(num), len(den), a, b)
				}
			}
		}
	}
}

// R1 and R6: any words, lists and ints; far out, the double is 0 or infinite.
func TestAnyArguments(t *testing.T) {
	r := rand.New(rand.NewSource(9))
	for range 20000 {
		m, e := r.Uint64()>>r.Intn(64)|1, int(r.Uint64())>>r.Intn(50)
		want := uint64(0)
		if e > 0 {
			want = infinity
		}
		for _, more := range signs() {
			a, b := fround.Word(false, m, e), fround.Of(false, []uint64{m, m, 0}, e, more)
			if max(e, -e) > 2000 && (a != want || b != want) {
				t.Errorf("%#x and %d: %x, %x", m, e, a, b)
			}
		}
	}
}

// untouched calls a function with a list, and says whether the list and the capacity behind it are as before.
func untouched(a []uint64, call func([]uint64)) bool {
	given := withSpare(a)
	before := slices.Clone(given[:cap(given)])
	call(given)
	return slices.Equal(before, given[:cap(given)])
}

// R4: arguments are not modified, and what was returned does not change with them.
func TestArgumentsStay(t *testing.T) {
	for _, a := range [][]uint64{{}, {0, 0}, {1}, {3, 0}, {1<<53 + 1}, {top}, {1 << 63, 1<<53 - 1}, {top, top, top, 0}, {0, 0, 5}} {
		for _, b := range [][]uint64{{1}, {3, 0}, {top}, {7, 9}, {top, top, 0}, {1, 0, 0, 0, 1}} {
			stay := untouched(a, func(num []uint64) {
				if !untouched(b, func(den []uint64) { fround.FromRat(api.Rat{Neg: true, Num: num, Den: den}) }) {
					t.Errorf("FromRat changed the denominator %v", b)
				}
			})
			if !stay {
				t.Errorf("FromRat changed the numerator %v", a)
			}
		}
		for _, more := range signs() {
			for _, e := range []int{math.MinInt, -1100, -64, 0, 971, math.MaxInt} {
				if !untouched(a, func(m []uint64) { fround.Of(false, m, e, more) }) {
					t.Errorf("Of changed %v", a)
				}
			}
		}
	}
}

// R4: nothing of an argument is kept for a later call.
func TestArgumentsAreNotKept(t *testing.T) {
	a, b := []uint64{1, 1}, []uint64{3}
	fround.Of(false, a, 0, true)
	fround.FromRat(api.Rat{Num: a, Den: b})
	a[0], a[1], b[0] = 3, 0, 1
	if got := fround.Of(false, a, 0, false); got != 0x4008000000000000 {
		t.Errorf("Of(3) = %x", got)
	}
	if got := fround.FromRat(api.Rat{Num: a[:1], Den: b}); got != 0x4008000000000000 {
		t.Errorf("FromRat(3) = %x", got)
	}
}

// spoil overwrites a list and the capacity behind it.
func spoil(a []uint64) {
	a = a[:cap(a)]
	for i := range a {
		a[i] = 0xbad
	}
}

// R4: results are new memory, and the two lists of one result share none.
func TestResultsAreNew(t *testing.T) {
	for _, b := range []uint64{0, sign, 1, normal, one, 0x3fd5555555555555, 0xc004000000000000, 0x43f0000000000000, greatest} {
		x, _ := fround.ToRat(b)
		want := exact(value(b))
		spoil(x.Num)
		if !slices.Equal(x.Den, want.Den) {
			t.Errorf("the lists of ToRat(%x) share memory", b)
		}
		spoil(x.Den)
		if y, e := fround.ToRat(b); e != api.OK || !equal(y, want) {
			t.Errorf("ToRat(%x) = %v, %v after an earlier result was changed", b, y, e)
		}
	}
}
