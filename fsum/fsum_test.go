package fsum_test

import (
	"math"
	"math/big"
	"math/rand"
	"slices"
	"testing"

	"gradine/fbits"
	"gradine/fsum"
)

const (
	sign     = 1 << 63
	nan      = 0x7ff8000000000000
	infinity = 0x7ff0000000000000
	greatest = 0x7fefffffffffffff
	normal   = 0x0010000000000000 // the least normal double
	half     = 0x3fe0000000000000
	one      = 0x3ff0000000000000
	two      = 0x4000000000000000
	three    = 0x4008000000000000
	exp1     = 1 << 52 // 1 in the exponent field: twice the value of a normal double
)

// nones are doubles that are not a number, with and without a sign.
func nones() []uint64 {
	out := []uint64{infinity + 1, 0x7ff7ffffffffffff, nan, nan + 1, 0x7fffffffffffffff}
	for _, b := range slices.Clone(out) {
		out = append(out, b|sign)
	}
	return out
}

// edges are finite doubles at the borders of the kinds and of powers of 2, and some between them, with and without a sign.
func edges() []uint64 {
	out := []uint64{
		0, 1, 2, 3, normal/2 - 1, normal / 2, normal - 2, normal - 1, normal, normal + 1, normal + exp1 - 1, normal + exp1, normal + exp1 + 1, normal + 52*exp1, normal + 53*exp1,
		one - 54*exp1, one - 53*exp1, one - 53*exp1 + 1, one - 52*exp1, half, one - 1, one, one + 1, one + 2, two - 1, two, three, 0x3fd5555555555555,
		0x4330000000000000, 0x433fffffffffffff, 0x4340000000000000, 0x4340000000000001,
		greatest - 54*exp1, greatest - 53*exp1, greatest - exp1, infinity - 55*exp1, infinity - 54*exp1, infinity - 54*exp1 + 1, infinity - exp1, greatest - 1, greatest,
	}
	for _, b := range slices.Clone(out) {
		out = append(out, b|sign)
	}
	return out
}

// kinds are doubles of all kinds.
func kinds() []uint64 {
	return append(append(edges(), infinity, infinity|sign), nones()...)
}

// steps is the value of a finite double without its sign as a multiple of 2^-1074, of which all doubles are multiples, by a way that does not use the program; the infinity counts as 2^1024, so that what lies between it and the greatest double is 2^1024 - 2^970.
func steps(b uint64) *big.Int {
	b &^= sign
	if b < normal {
		return new(big.Int).SetUint64(b)
	}
	m := new(big.Int).SetUint64(b%exp1 + exp1)
	return m.Lsh(m, uint(b/exp1-1))
}

// signedSteps is the value of a finite double with its sign.
func signedSteps(b uint64) *big.Int {
	n := steps(b)
	if b >= sign {
		n.Neg(n)
	}
	return n
}

// isNearest is the definition of the nearest double, for one without a sign; compare compares the exact number with a multiple of 2^-1075, of which all middles between two doubles are multiples.
func isNearest(b uint64, compare func(*big.Int) int) bool {
	if b > infinity {
		return false
	}
	// Where the exact number is such a middle, the even double is the nearest one; the infinity counts as even.
	odd := int(b % 2)
	if b > 0 && compare(middle(b-1)) < odd {
		return false
	}
	return b == infinity || compare(middle(b)) <= -odd
}

// middle is the number between a double without a sign and the next one.
func middle(b uint64) *big.Int {
	return new(big.Int).Add(steps(b), steps(b+1))
}

// checkFinite holds the sum of two finite doubles against the definition, and against the machine's own.
func checkFinite(t *testing.T, a, b uint64) {
	t.Helper()
	got := fsum.Add(a, b)
	if want := math.Float64bits(math.Float64frombits(a) + math.Float64frombits(b)); got != want {
		t.Errorf("Add(%x, %x) = %x, want %x", a, b, got, want)
	}
	sum := new(big.Int).Add(signedSteps(a), signedSteps(b))
	if sum.Sign() == 0 {
		if got != a&b&sign {
			t.Errorf("Add(%x, %x) = %x, but the sum is 0", a, b, got)
		}
		return
	}
	size := new(big.Int).Abs(sum)
	size.Lsh(size, 1)
	if (got >= sign) != (sum.Sign() < 0) || !isNearest(got&^sign, size.Cmp) {
		t.Errorf("Add(%x, %x) = %x is not the nearest double", a, b, got)
	}
}

// checkSigns holds the sums of two doubles with all signs and in both orders against the definition.
func checkSigns(t *testing.T, a, b uint64) {
	t.Helper()
	for _, x := range []uint64{a, a ^ sign} {
		for _, y := range []uint64{b, b ^ sign} {
			checkFinite(t, x, y)
			checkFinite(t, y, x)
		}
	}
}

// wantSum calls Add in both orders, and Sub with what makes it the same.
func wantSum(t *testing.T, a, b, want uint64) {
	t.Helper()
	if got := fsum.Add(a, b); got != want {
		t.Errorf("Add(%x, %x) = %x, want %x", a, b, got, want)
	}
	if got := fsum.Add(b, a); got != want {
		t.Errorf("Add(%x, %x) = %x, want %x", b, a, got, want)
	}
	if got := fsum.Sub(a, b^sign); got != want {
		t.Errorf("Sub(%x, %x) = %x, want %x", a, b^sign, got, want)
	}
}

// Promise 11.1, with results that are written out; with both signs turned, the sign of the result is turned too.
func TestAddExamples(t *testing.T) {
	for _, c := range [][3]uint64{
		{one, one, two}, {one, two, three}, {one | sign, three, two}, {one, 0, one}, {one, sign, one}, {two, three | sign, one | sign},
		{0x3fb999999999999a, 0x3fc999999999999a, 0x3fd3333333333334},                                // 0.1 + 0.2
		{one, one - 53*exp1, one}, {one, one - 53*exp1 + 1, one + 1}, {one, one - 53*exp1 - 1, one}, // around 1 + 2^-53, with the even one below
		{one + 1, one - 53*exp1, one + 2}, {one + 1, one - 53*exp1 - 1, one + 1}, {one + 1, one - 53*exp1 + 1, one + 2}, // with the even one above
		{one + 1, 1, one + 1}, {one, sign | 1, one}, {greatest, sign | 1, greatest}, {one, 1, one},
		{one, sign | one - 54*exp1, one}, {one, sign | one - 54*exp1 + 1, one - 1}, {one, sign | one - 54*exp1 - 1, one}, // around 1 - 2^-54
		{one - 1, one - 54*exp1, one}, {one - 1, one - 54*exp1 - 1, one - 1}, {two - 1, one - 53*exp1, two},
		{0x4340000000000000, one, 0x4340000000000000}, {0x4340000000000000, one + 1, 0x4340000000000001}, {0x4340000000000001, one, 0x4340000000000002},
		{0x4340000000000000, sign | one, 0x433fffffffffffff},
		{1, 1, 2}, {1, 2, 3}, {normal - 1, 1, normal}, {normal - 1, normal - 1, normal + exp1 - 2}, {normal, sign | 1, normal - 1},
		{normal + 1, sign | normal, 1}, {normal + exp1, sign | normal + exp1 - 1, 1}, {normal, normal, normal + exp1}, {normal, sign | normal - 1, 1},
		{one + 1, sign | one, one - 52*exp1}, {one, sign | one - 1, one - 53*exp1}, {two, sign | two - 1, one - 52*exp1},
		{greatest, infinity - 55*exp1, greatest}, {greatest, infinity - 54*exp1, infinity}, {greatest, infinity - 54*exp1 - 1, greatest}, {greatest, infinity - 54*exp1 + 1, infinity},
		{greatest - 1, infinity - 54*exp1, greatest - 1}, {greatest - 1, infinity - 53*exp1, greatest}, {greatest - 1, infinity - 53*exp1 + 1, greatest},
		{greatest, greatest, infinity}, {infinity - exp1, infinity - exp1, infinity}, {infinity - exp1, infinity - exp1 - 1, infinity}, {infinity - exp1, infinity - exp1 - 2, greatest}, {infinity - exp1, infinity - exp1 - 3, greatest - 1},
		{greatest, sign | greatest - 1, infinity - 53*exp1}, {greatest, 1, greatest}, {greatest, 0, greatest},
	} {
		wantSum(t, c[0], c[1], c[2])
		wantSum(t, c[0]^sign, c[1]^sign, c[2]^sign)
	}
}

// Promise 11.1: the sign of a sum that is 0, with results that are written out.
func TestAddZeros(t *testing.T) {
	wantSum(t, 0, 0, 0)
	wantSum(t, 0, sign, 0)
	wantSum(t, sign, 0, 0)
	wantSum(t, sign, sign, sign)
	for _, b := range edges() {
		if b&^sign == 0 {
			continue
		}
		wantSum(t, b, b^sign, 0)
		wantSum(t, b, 0, b)
		wantSum(t, b, sign, b)
		if got := fsum.Sub(b, b); got != 0 {
			t.Errorf("Sub(%x, %x) = %x", b, b, got)
		}
	}
	for _, c := range [][3]uint64{{0, 0, 0}, {0, sign, 0}, {sign, 0, sign}, {sign, sign, 0}} {
		if got := fsum.Sub(c[0], c[1]); got != c[2] {
			t.Errorf("Sub(%x, %x) = %x", c[0], c[1], got)
		}
	}
}

// Promise 11.1: what is not a number makes the sum Nan, whichever operand it is and whatever the other one is.
func TestAddNoNumber(t *testing.T) {
	for _, a := range nones() {
		for _, b := range kinds() {
			wantSum(t, a, b, nan)
			if got := fsum.Sub(a, b); got != nan {
				t.Errorf("Sub(%x, %x) = %x", a, b, got)
			}
			if got := fsum.Sub(b, a); got != nan {
				t.Errorf("Sub(%x, %x) = %x", b, a, got)
			}
		}
	}
}

// Promise 11.1: an infinity is the sum, unless the other operand is the other one.
func TestAddInfinite(t *testing.T) {
	for _, b := range edges() {
		wantSum(t, infinity, b, infinity)
		wantSum(t, infinity|sign, b, infinity|sign)
	}
	wantSum(t, infinity, infinity, infinity)
	wantSum(t, infinity|sign, infinity|sign, infinity|sign)
	wantSum(t, infinity, infinity|sign, nan)
	for _, c := range [][3]uint64{
		{infinity, infinity, nan}, {infinity | sign, infinity | sign, nan}, {infinity, infinity | sign, infinity}, {infinity | sign, infinity, infinity | sign},
		{one, infinity, infinity | sign}, {one, infinity | sign, infinity}, {infinity, greatest, infinity}, {infinity | sign, greatest | sign, infinity | sign},
	} {
		if got := fsum.Sub(c[0], c[1]); got != c[2] {
			t.Errorf("Sub(%x, %x) = %x, want %x", c[0], c[1], got, c[2])
		}
	}
}

// Promise 11.1: each edge with each.
func TestAddEdges(t *testing.T) {
	for _, a := range edges() {
		for _, b := range edges() {
			checkFinite(t, a, b)
		}
	}
}

// fractions are fraction fields: few bits and many, at both ends, and random ones.
func fractions() []uint64 {
	r := rand.New(rand.NewSource(1))
	out := []uint64{0, 1, 2, 3, exp1 / 2, exp1/2 - 1, exp1/2 + 1, exp1 - 1, exp1 - 2, exp1 - 4}
	for range 4 {
		out = append(out, r.Uint64()%exp1)
	}
	return out
}

// Promise 11.1: operands whose exponents are equal, next to each other, just so far apart that bits are cut off, and far apart.
func TestAddAtEachDistance(t *testing.T) {
	var fields []uint64
	for d := range uint64(70) {
		fields = append(fields, d)
	}
	fields = append(fields, 100, 127, 128, 129, 255, 256, 1023, 1024, 2000, 2045)
	for _, d := range fields {
		for _, x := range fractions() {
			for _, y := range fractions() {
				checkSigns(t, (d+1)*exp1+x, exp1+y)
				checkSigns(t, 2046*exp1+x, (2046-d)*exp1+y)
				checkSigns(t, d*exp1+x, y)
			}
		}
	}
}

// Promise 11.1: exactly between two doubles, just below and just above, where the even one lies below and where it lies above, and sums that cross a power of 2.
func TestAddTies(t *testing.T) {
	for _, field := range []uint64{60, 61, 600, 1023, 1024, 2000, 2045, 2046} {
		for _, x := range fractions() {
			a, tie := field*exp1+x, (field-53)*exp1
			for d := range uint64(3) {
				checkSigns(t, a, tie-1+d)
				checkSigns(t, a, tie-exp1-1+d)
				checkSigns(t, a, tie+exp1/2-1+d)
				checkSigns(t, a, tie+exp1-1+d)
				checkSigns(t, a, tie+exp1+exp1/2-1+d)
			}
		}
	}
}

// Promise 11.1: sums of which all bits cancel, all but one, or so many that the rest is subnormal.
func TestAddCancels(t *testing.T) {
	for _, field := range []uint64{0, 1, 2, 3, 10, 52, 53, 54, 55, 1023, 2046} {
		for _, x := range fractions() {
			a := field*exp1 + x
			for k := range 52 {
				checkSigns(t, a, a^1<<k)
			}
			for d := uint64(1); d < 5 && a+d <= greatest; d++ {
				checkSigns(t, a, a+d)
			}
			checkSigns(t, a, a)
		}
		if field < 2046 {
			checkSigns(t, (field+1)*exp1, (field+1)*exp1-1)
			checkSigns(t, (field+1)*exp1+1, (field+1)*exp1-1)
		}
	}
}

// nearby is a random double that is often so near to another one that their bits overlap.
func nearby(r *rand.Rand, b uint64) uint64 {
	switch r.Intn(3) {
	case 0:
		return r.Uint64()
	case 1:
		return b ^ r.Uint64()>>(1+r.Intn(63)) ^ r.Uint64()&sign
	}
	field := int(b>>52%2048) + r.Intn(130) - 65
	return uint64(min(max(field, 0), 2046))<<52 | r.Uint64()%exp1 | r.Uint64()&sign
}

// Promise 11.1: random ones.
func TestAddRandom(t *testing.T) {
	r := rand.New(rand.NewSource(2))
	for range 100000 {
		a := r.Uint64() >> 1 & ^(r.Uint64() & r.Uint64() & (exp1 - 1))
		b := nearby(r, a)
		if a < infinity && b&^sign < infinity {
			checkFinite(t, a, b)
			checkFinite(t, b, a)
		}
	}
}

// Promise 11.1: a difference is the sum with the negative, for operands of all kinds.
func TestSubIsAddOfFlip(t *testing.T) {
	for _, a := range kinds() {
		for _, b := range kinds() {
			if x, y := fsum.Sub(a, b), fsum.Add(a, fbits.Flip(b)); x != y {
				t.Errorf("Sub(%x, %x) = %x, but Add(%x, Flip) = %x", a, b, x, a, y)
			}
		}
	}
	for _, c := range [][3]uint64{{three, one, two}, {one, three, two | sign}, {one | sign, one, two | sign}, {one, one | sign, two}, {one, 0, one}, {0, one, one | sign}} {
		if got := fsum.Sub(c[0], c[1]); got != c[2] {
			t.Errorf("Sub(%x, %x) = %x, want %x", c[0], c[1], got, c[2])
		}
	}
}

// Promise 11.2: the order does not matter, and the sum of the negatives is the negative of the sum, unless it is 0.
func TestConsequences(t *testing.T) {
	check := func(a, b uint64) {
		sum := fsum.Add(a, b)
		if got := fsum.Add(b, a); got != sum {
			t.Errorf("Add(%x, %x) = %x, but %x the other way round", a, b, sum, got)
		}
		if got := fsum.Add(fbits.Flip(a), fbits.Flip(b)); got != fbits.Flip(sum) && sum&^sign != 0 {
			t.Errorf("the sum of %x and %x is %x, and of the negatives %x", a, b, sum, got)
		}
	}
	for _, a := range kinds() {
		for _, b := range kinds() {
			check(a, b)
		}
	}
	r := rand.New(rand.NewSource(3))
	for range 50000 {
		a := r.Uint64()
		check(a, nearby(r, a))
	}
}

// checkExact holds the difference of two finite doubles without signs against the exact one.
func checkExact(t *testing.T, a, b uint64) {
	t.Helper()
	want := new(big.Int).Sub(steps(a), steps(b))
	got := fsum.Sub(a, b)
	if got&^sign > greatest || signedSteps(got).Cmp(want) != 0 {
		t.Errorf("Sub(%x, %x) = %x is not exact", a, b, got)
	}
	if want.Sign() == 0 && got != 0 {
		t.Errorf("Sub(%x, %x) = %x", a, b, got)
	}
}

// Promise 11.3: differences of doubles of which neither is more than twice the other one, up to exactly twice.
func TestSubIsExact(t *testing.T) {
	near := func(a, b uint64) {
		x, y := steps(a), steps(b)
		if a <= greatest && b <= greatest && x.Cmp(new(big.Int).Lsh(y, 1)) <= 0 && y.Cmp(new(big.Int).Lsh(x, 1)) <= 0 {
			checkExact(t, a, b)
			checkExact(t, b, a)
		}
	}
	r := rand.New(rand.NewSource(4))
	for field := range uint64(2047) {
		for _, x := range []uint64{0, 1, exp1 - 1, r.Uint64() % exp1} {
			a := field*exp1 + x
			for _, b := range []uint64{a, a + 1, a + exp1, a + exp1 - 1, 2 * a, 2*a - 1, a ^ 1, a ^ exp1/2, a + r.Uint64()%exp1, field*exp1 + r.Uint64()%exp1} {
				near(a, b)
			}
		}
	}
	for _, a := range edges() {
		for _, b := range edges() {
			near(a&^sign, b&^sign)
		}
	}
}

// R1 and R5: any words are answered, always in the same way, and what is not a number is Nan.
func TestAnyWords(t *testing.T) {
	r := rand.New(rand.NewSource(5))
	for range 100000 {
		a := r.Uint64() | r.Uint64()&(2047<<52)
		b := nearby(r, a)
		x, y := fsum.Add(a, b), fsum.Sub(a, b)
		if x != fsum.Add(a, b) || y != fsum.Sub(a, b) {
			t.Errorf("%x and %x have two answers", a, b)
		}
		if x&^sign > infinity && x != nan || y&^sign > infinity && y != nan {
			t.Errorf("%x and %x: %x, %x", a, b, x, y)
		}
	}
}
