package fprod_test

import (
	"math"
	"math/big"
	"math/rand"
	"slices"
	"testing"

	"gradine/fprod"
)

const (
	sign     = 1 << 63
	nan      = 0x7ff8000000000000
	infinity = 0x7ff0000000000000
	greatest = 0x7fefffffffffffff
	normal   = 0x0010000000000000 // the least normal double
	half     = 0x3fe0000000000000
	one      = 0x3ff0000000000000
	two      = 0x4000000000000000
	three    = 0x4008000000000000
	four     = 0x4010000000000000
	exp1     = 1 << 52 // 1 in the exponent field: twice the value of a normal double
	low500   = one - 500*exp1
	high500  = one + 500*exp1
)

// nones are doubles that are not a number, with and without a sign.
func nones() []uint64 {
	out := []uint64{infinity + 1, 0x7ff7ffffffffffff, nan, nan + 1, 0x7fffffffffffffff}
	for _, b := range slices.Clone(out) {
		out = append(out, b|sign)
	}
	return out
}

// edges are finite doubles without a sign, other than 0, at the borders of the kinds, of powers of 2 and of what overflows or underflows with another one, and some between them.
func edges() []uint64 {
	return []uint64{
		1, 2, 3, 4, 5, 7, normal/2 - 1, normal / 2, normal/2 + 1, normal - 2, normal - 1, normal, normal + 1, normal + exp1 - 1, normal + exp1, normal + exp1 + 1, normal + 52*exp1, normal + 53*exp1,
		low500 - 40*exp1, low500 - 38*exp1, low500 - 38*exp1 + 1, low500 - 37*exp1 - 1, low500 - 37*exp1, low500 - 37*exp1 + 1, low500 - 12*exp1, low500 - 11*exp1, low500 - 1, low500,
		one - 53*exp1, one - 52*exp1, half - 1, half, half + 1, one - 2, one - 1, one, one + 1, one + 2, two - 1, two, two + 1, three, four, 0x3fd5555555555555, 0x3fe5555555555555, 0x3fb999999999999a, 0x3ff6a09e667f3bcd,
		0x4330000000000000, 0x433fffffffffffff, 0x4340000000000000, 0x4340000000000001, high500, high500 + 1, high500 + 11*exp1, high500 + 12*exp1 - 1, high500 + 12*exp1, high500 + 12*exp1 + 1,
		greatest - exp1, infinity - exp1, infinity - exp1 + 1, greatest - 1, greatest,
	}
}

// bothSigns are doubles, and the same with a sign.
func bothSigns(list []uint64) []uint64 {
	out := slices.Clone(list)
	for _, b := range list {
		out = append(out, b|sign)
	}
	return out
}

// kinds are doubles of all kinds.
func kinds() []uint64 {
	return append(bothSigns(append(edges(), 0, infinity)), nones()...)
}

// steps is the value of a finite double without its sign as a multiple of 2^-1074, of which all doubles are multiples, by a way that does not use the program; the infinity counts as 2^1024, so that what lies between it and the greatest double is 2^1024 - 2^970.
func steps(b uint64) *big.Int {
	b &^= sign
	if b < normal {
		return new(big.Int).SetUint64(b)
	}
	m := new(big.Int).SetUint64(b%exp1 + exp1)
	return m.Lsh(m, uint(b/exp1-1))
}

// isNearest is the definition of the nearest double, for one without a sign; compare compares the exact number with a multiple of 2^-1075, of which all middles between two doubles are multiples.
func isNearest(b uint64, compare func(*big.Int) int) bool {
	if b > infinity {
		return false
	}
	// Where the exact number is such a middle, the even double is the nearest one; the infinity counts as even.
	odd := int(b % 2)
	if b > 0 && compare(middle(b-1)) < odd {
		return false
	}
	return b == infinity || compare(middle(b)) <= -odd
}

// middle is the number between a double without a sign and the next one.
func middle(b uint64) *big.Int {
	return new(big.Int).Add(steps(b), steps(b+1))
}

// times2 is n * 2^e.
func times2(n *big.Int, e uint) *big.Int {
	return new(big.Int).Lsh(n, e)
}

func number(b uint64) float64 {
	return math.Float64frombits(b)
}

// checkMul holds the products of two finite doubles with all signs against the definition, and against the machine's own.
func checkMul(t *testing.T, a, b uint64) {
	t.Helper()
	product := new(big.Int).Mul(steps(a), steps(b))
	compare := func(x *big.Int) int { return product.Cmp(times2(x, 2148-1075)) }
	for _, a := range []uint64{a, a ^ sign} {
		for _, b := range []uint64{b, b ^ sign} {
			got := fprod.Mul(a, b)
			if want := math.Float64bits(number(a) * number(b)); got != want {
				t.Errorf("Mul(%x, %x) = %x, want %x", a, b, got, want)
			}
			if got&sign != (a^b)&sign || !isNearest(got&^sign, compare) {
				t.Errorf("Mul(%x, %x) = %x is not the nearest double", a, b, got)
			}
		}
	}
}

// checkDiv holds the quotients of two finite doubles with all signs, of which the second one is not 0, against the definition, and against the machine's own.
func checkDiv(t *testing.T, a, b uint64) {
	t.Helper()
	upper, lower := times2(steps(a), 1075), steps(b)
	compare := func(x *big.Int) int { return upper.Cmp(new(big.Int).Mul(x, lower)) }
	for _, a := range []uint64{a, a ^ sign} {
		for _, b := range []uint64{b, b ^ sign} {
			got := fprod.Div(a, b)
			if want := math.Float64bits(number(a) / number(b)); got != want {
				t.Errorf("Div(%x, %x) = %x, want %x", a, b, got, want)
			}
			if got&sign != (a^b)&sign || !isNearest(got&^sign, compare) {
				t.Errorf("Div(%x, %x) = %x is not the nearest double", a, b, got)
			}
		}
	}
}

// checkSqrt holds the square root of a finite double without a sign against the definition, and against the machine's own; with a sign it is not a number.
func checkSqrt(t *testing.T, b uint64) {
	t.Helper()
	square := times2(steps(b), 2150-1074)
	compare := func(x *big.Int) int { return square.Cmp(new(big.Int).Mul(x, x)) }
	got := fprod.Sqrt(b)
	if want := math.Float64bits(math.Sqrt(number(b))); got != want {
		t.Errorf("Sqrt(%x) = %x, want %x", b, got, want)
	}
	if !isNearest(got, compare) {
		t.Errorf("Sqrt(%x) = %x is not the nearest double", b, got)
	}
	if got := fprod.Sqrt(b | sign); got != nan {
		t.Errorf("Sqrt(%x) = %x", b|sign, got)
	}
}

// want calls Mul or Div with operands without signs, and with all other signs.
func want(t *testing.T, name string, call func(a, b uint64) uint64, a, b, result uint64) {
	t.Helper()
	for _, s := range []uint64{0, sign} {
		for _, u := range []uint64{0, sign} {
			wanted := result
			if result != nan {
				wanted ^= s ^ u
			}
			if got := call(a^s, b^u); got != wanted {
				t.Errorf("%s(%x, %x) = %x, want %x", name, a^s, b^u, got, wanted)
			}
		}
	}
}

func wantMul(t *testing.T, a, b, result uint64) {
	t.Helper()
	want(t, "Mul", fprod.Mul, a, b, result)
	want(t, "Mul", fprod.Mul, b, a, result)
}

func wantDiv(t *testing.T, a, b, result uint64) {
	t.Helper()
	want(t, "Div", fprod.Div, a, b, result)
}

// double is a significand of at most 53 bits times 2^e.
func double(m uint64, e int) uint64 {
	return math.Float64bits(math.Ldexp(float64(m), e))
}

// Promise 12.1, with results that are written out.
func TestMulExamples(t *testing.T) {
	for _, c := range [][3]uint64{
		{one, one, one}, {two, two, four}, {three, half, 0x3ff8000000000000}, {0x3fb999999999999a, three, 0x3fd3333333333334}, // 0.1 * 3
		{one + 1, one + 1, one + 2}, {one + 1, one - 1, one}, {one - 1, one - 1, one - 2}, {two - 1, two - 1, four - 2}, {two - 1, one + 1, two},
		{double(1<<26+1, -26), double(1<<27+1, -27), one + 1<<26 + 1<<25},      // exactly between, the even one below
		{double(1<<27-1, 0), double(1<<27-3, 0), double((1<<52-1<<27+1)*4, 0)}, // 2^54 - 2^29 + 3, the even one above
		{double(1<<27-1, 0), double(1<<27-1, 0), double(1<<54-1<<28, 0)},       // 2^54 - 2^28 + 1, the even one below
		{1, one, 1}, {1, half, 0}, {1, half + 1, 1}, {1, half - 1, 0}, {3, half, 2}, {5, half, 2}, {1, 0x3ff8000000000000, 2}, {1, 1, 0}, {normal - 1, normal - 1, 0}, {normal, normal, 0}, {1, normal, 0},
		{one - 537*exp1, one - 538*exp1, 0}, {one - 537*exp1, one - 538*exp1 + 1, 1}, {one - 537*exp1, one - 538*exp1 - 1, 0}, {one - 537*exp1, one - 537*exp1, 1},
		{normal, one, normal}, {normal, half, normal / 2}, {normal, one - 1, normal}, {normal, one - 2, normal - 1}, {normal + 1, one - 1, normal}, {normal, one + 1, normal + 1}, {normal - 1, two, normal + exp1 - 2}, {normal / 2, two, normal},
		{normal + 1, half, normal / 2}, {normal + 3, half, normal/2 + 2}, {normal + exp1 - 1, half, normal},
		{greatest, one, greatest}, {greatest, one - 1, greatest - 1}, {greatest, one + 1, infinity}, {greatest, half, greatest - exp1}, {infinity - exp1, two, infinity}, {infinity - exp1, two - 1, greatest}, {greatest, greatest, infinity},
		{double(1<<27-1, 485), double(1<<27+1, 485), infinity}, // exactly 2^1024 - 2^970
		{double(1<<27-1, 485), double(1<<27+1, 485) - 1, greatest - 1}, {double(1<<27-1, 485) - 1, double(1<<27+1, 485), greatest - 1}, {double(1<<27-1, 485), double(1<<27+1, 485) + 1, infinity},
		{greatest, 1, double(1<<53-1, -103)}, {greatest, normal, double(1<<53-1, -51)}, {infinity - exp1, 1, double(1, -51)}, {high500 + 12*exp1, high500 + 11*exp1, infinity - exp1}, {high500 + 12*exp1, high500 + 12*exp1, infinity},
	} {
		wantMul(t, c[0], c[1], c[2])
	}
}

// Promise 12.1, with results that are written out.
func TestDivExamples(t *testing.T) {
	for _, c := range [][3]uint64{
		{one, three, 0x3fd5555555555555}, {two, three, 0x3fe5555555555555}, {one, one, one}, {three, two, 0x3ff8000000000000}, {one, 0x4024000000000000, 0x3fb999999999999a}, // 1 / 10
		{one, one + 1, one - 2}, {one, one - 1, one + 1}, {one - 1, one, one - 1}, {one + 1, one - 1, one + 2}, {one - 1, one + 1, one - 3}, {two, two - 1, one + 1}, {greatest, greatest, one}, {greatest, greatest - 1, one + 1},
		{1, two, 0}, {1, two - 1, 1}, {1, two + 1, 0}, {3, two, 2}, {5, two, 2}, {7, two, 4}, {1, one, 1}, {1, half, 2}, {1, 1, one}, {2, 1, two}, {3, 1, three}, {1, 3, 0x3fd5555555555555}, {normal - 1, 1, double(1<<52-1, 0)}, {1, normal - 1, double(1<<52, -104) + 1},
		{normal, two, normal / 2}, {normal + 1, two, normal / 2}, {normal + 3, two, normal/2 + 2}, {normal + exp1 - 1, two, normal}, {normal, one + 1, normal - 1}, {normal, one - 1, normal + 1}, {normal, normal, one}, {normal - 1, normal, one - 2},
		{greatest, one, greatest}, {greatest, one - 1, infinity}, {greatest, one + 1, greatest - 2}, {greatest - 1, one - 1, greatest}, {greatest, half, infinity}, {infinity - exp1, half, infinity}, {infinity - exp1, half + 1, greatest - 1}, {one, 1, infinity}, {normal, 1, double(1, 52)},
		{one, greatest, 0x0004000000000000}, {one, infinity - exp1, normal / 2}, {1, greatest, 0}, {greatest, 1, infinity}, {low500, high500 + 74*exp1, 1}, {low500, high500 + 75*exp1, 0}, {low500 + 1, high500 + 75*exp1, 1}, {low500 - 1, high500 + 75*exp1, 0},
	} {
		wantDiv(t, c[0], c[1], c[2])
	}
}

// Promise 12.1: zeros and infinities in every combination, with results that are written out.
func TestZerosAndInfinities(t *testing.T) {
	wantMul(t, 0, 0, 0)
	wantMul(t, 0, infinity, nan)
	wantMul(t, infinity, infinity, infinity)
	wantDiv(t, 0, 0, nan)
	wantDiv(t, infinity, infinity, nan)
	wantDiv(t, 0, infinity, 0)
	wantDiv(t, infinity, 0, infinity)
	for _, b := range edges() {
		wantMul(t, 0, b, 0)
		wantMul(t, infinity, b, infinity)
		wantDiv(t, 0, b, 0)
		wantDiv(t, b, 0, infinity)
		wantDiv(t, infinity, b, infinity)
		wantDiv(t, b, infinity, 0)
	}
}

// Promises 12.1 and 12.2: what is not a number makes the result Nan, whichever operand it is and whatever the other one is.
func TestNoNumber(t *testing.T) {
	for _, a := range nones() {
		for _, b := range kinds() {
			for _, got := range []uint64{fprod.Mul(a, b), fprod.Mul(b, a), fprod.Div(a, b), fprod.Div(b, a)} {
				if got != nan {
					t.Errorf("%x and %x: %x", a, b, got)
				}
			}
		}
		if got := fprod.Sqrt(a); got != nan {
			t.Errorf("Sqrt(%x) = %x", a, got)
		}
	}
}

// Promise 12.1: each edge with each.
func TestEdges(t *testing.T) {
	for _, a := range edges() {
		for _, b := range edges() {
			checkMul(t, a, b)
			checkDiv(t, a, b)
		}
	}
}

// Promise 12.1: short subnormal doubles with each other, and with doubles that bring them to normal ones or to 0.
func TestSubnormal(t *testing.T) {
	r := rand.New(rand.NewSource(1))
	for a := uint64(1); a < 40; a++ {
		for b := uint64(1); b < 40; b++ {
			checkDiv(t, a, b)
			checkMul(t, a, double(b, -5))
			checkDiv(t, a, double(b, -2))
			checkMul(t, a, double(b, 500))
		}
	}
	for k := range 52 {
		for range 20 {
			a, b := r.Uint64()>>(12+k)|1, r.Uint64()>>12
			checkDiv(t, a, b|1)
			checkDiv(t, b, a)
			checkMul(t, a, b)
			checkMul(t, a, one+b)
			checkMul(t, a, one+uint64(k)*exp1+b)
			checkMul(t, normal+b, one-uint64(k+1)*exp1+a)
			checkDiv(t, a, one+b)
			checkDiv(t, normal+b, one+uint64(k)*exp1+a)
		}
	}
}

// targets are the numbers around which a double becomes another kind of double or rounds another way, as multiples of 2^-1075.
func targets() []*big.Int {
	var out []*big.Int
	for _, b := range []uint64{0, 1, 2, normal - 2, normal - 1, normal, normal + exp1 - 1, one - 1, one, one + 1, greatest - 1, greatest} {
		out = append(out, middle(b), times2(steps(b+1), 1))
	}
	return out
}

// beside are the doubles nearest to a number without a sign, and the next ones on both sides.
func beside(upper, lower *big.Int) []uint64 {
	f, _ := new(big.Rat).SetFrac(upper, lower).Float64()
	b := math.Float64bits(f)
	if b == 0 || b >= greatest {
		return nil
	}
	return []uint64{b - 1, b, b + 1}
}

// Promise 12.1: products and quotients around 2^1024 - 2^970, half of the least subnormal double, the least normal one, and others.
func TestAroundTargets(t *testing.T) {
	r := rand.New(rand.NewSource(2))
	for _, target := range targets() {
		for range 300 {
			a := uint64(r.Intn(2047))*exp1 + r.Uint64()%exp1 | 1
			for _, b := range beside(target, times2(steps(a), 1)) {
				checkMul(t, a, b)
			}
			for _, b := range beside(new(big.Int).Mul(target, steps(a)), times2(big.NewInt(1), 1075+1074)) {
				checkDiv(t, b, a)
			}
		}
	}
}

// Promise 12.1: products of odd significands of 27 bits have 53 or 54 bits: with 54 they lie exactly between two doubles.
func TestMulTies(t *testing.T) {
	r := rand.New(rand.NewSource(3))
	ties := [4]int{}
	for range 4000 {
		x, y := r.Uint64()%(1<<26)+1<<26|1, r.Uint64()%(1<<26)+1<<26|1
		if x*y>>53 == 1 {
			ties[x*y%4]++
		}
		checkMul(t, double(x, r.Intn(900)-480), double(y, r.Intn(900)-480))
	}
	if ties[1] < 500 || ties[3] < 500 {
		t.Error("too few ties", ties)
	}
}

// inverse is the word whose product with an odd word is 1 modulo 2^64.
func inverse(x uint64) uint64 {
	y := x
	for range 6 {
		y *= 2 - x*y
	}
	return y
}

// odd53 is a random odd significand of 53 bits.
func odd53(r *rand.Rand) uint64 {
	return exp1 + r.Uint64()%exp1 | 1
}

// Promise 12.1: products of 105 and 106 bits whose low bits are a half, or as near to a half as can be, or as near to a double.
func TestMulNearTies(t *testing.T) {
	r := rand.New(rand.NewSource(4))
	for range 1000 {
		x := odd53(r)
		for _, drop := range []int{52, 53} {
			for _, kept := range []uint64{0, 1} {
				for _, low := range []uint64{1<<(drop-1) - 1, 1<<(drop-1) + 1, 1, 1<<drop - 1} {
					y := (kept<<drop + low) * inverse(x) % (1 << 53)
					checkMul(t, double(x, -52), double(y, -52))
				}
			}
		}
	}
}

// Promise 12.1: quotients as near to the middle of two doubles as can be: a * 2^54 = q * b + c, with q in the middle and c small.
func TestDivNearTies(t *testing.T) {
	r := rand.New(rand.NewSource(5))
	for range 2000 {
		b := odd53(r)
		for _, c := range []int64{-3, -1, 1, 3} {
			q := -uint64(c) * inverse(b) % (1 << 54)
			a := new(big.Int).Mul(new(big.Int).SetUint64(q), new(big.Int).SetUint64(b))
			a.Add(a, big.NewInt(c)).Rsh(a, 54)
			if a.BitLen() == 0 || a.BitLen() > 53 {
				continue
			}
			checkDiv(t, double(a.Uint64(), 0), double(b, 0))
			checkDiv(t, double(a.Uint64(), r.Intn(1000)-500), double(b, r.Intn(1000)-500))
		}
	}
}

// Promise 12.1: quotients that are short, exactly, and one step beside it.
func TestDivExact(t *testing.T) {
	r := rand.New(rand.NewSource(6))
	for range 3000 {
		x, y := r.Uint64()>>38|1, r.Uint64()>>38|1
		a, b := double(x*y, r.Intn(800)-400), double(y, r.Intn(800)-400)
		checkDiv(t, a, b)
		checkDiv(t, a+1, b)
		checkDiv(t, a-1, b)
		if got := fprod.Div(double(x*y, 0), double(y, 0)); got != double(x, 0) {
			t.Errorf("%d / %d = %x", x*y, y, got)
		}
	}
}

// Promise 12.1: random ones.
func TestRandom(t *testing.T) {
	r := rand.New(rand.NewSource(7))
	for range 30000 {
		a := r.Uint64() >> 1
		b := r.Uint64() >> 1
		// About half of the products and of the quotients of any two doubles overflow or underflow.
		if r.Intn(2) == 0 {
			a, b = a%exp1+uint64(r.Intn(1000)+500)*exp1, b%exp1+uint64(r.Intn(1000)+500)*exp1
		}
		if a < infinity && b < infinity && b > 0 {
			checkMul(t, a, b)
			checkDiv(t, a, b)
		}
	}
}

// Promise 12.2, with results that are written out.
func TestSqrtExamples(t *testing.T) {
	for _, c := range [][2]uint64{
		{0, 0}, {sign, sign}, {infinity, infinity}, {infinity | sign, nan}, {nan, nan}, {nan | sign, nan}, {one | sign, nan}, {1 | sign, nan}, {greatest | sign, nan}, {normal | sign, nan},
		{one, one}, {two, 0x3ff6a09e667f3bcd}, {three, 0x3ffbb67ae8584caa}, {four, two}, {0x4022000000000000, three}, {half, 0x3fe6a09e667f3bcd}, {0x3fd0000000000000, half},
		{one + 1, one}, {one + 2, one + 1}, {one + 3, one + 1}, {one - 1, one - 1}, {one - 2, one - 1}, {one - 3, one - 2}, {four - 1, two - 1}, {four + 1, two},
		{1, one - 537*exp1}, {2, 0x1e66a09e667f3bcd}, {3, 0x1e6bb67ae8584caa}, {4, one - 536*exp1}, {9, 0x1e78000000000000},
		{normal - 1, 0x1fffffffffffffff}, {normal, one - 511*exp1}, {normal + 1, one - 511*exp1}, {normal / 2, 0x1ff6a09e667f3bcd}, {greatest, 0x5fefffffffffffff}, {infinity - exp1, 0x5fe6a09e667f3bcd},
	} {
		if got := fprod.Sqrt(c[0]); got != c[1] {
			t.Errorf("Sqrt(%x) = %x, want %x", c[0], got, c[1])
		}
	}
}

// Promise 12.2: all edges, doubles with each exponent, and subnormal doubles of each length; with a sign they have no root.
func TestSqrt(t *testing.T) {
	r := rand.New(rand.NewSource(8))
	for _, b := range edges() {
		checkSqrt(t, b)
	}
	for field := range uint64(2047) {
		for _, x := range []uint64{1, 2, exp1/2 - 1, exp1 - 1, exp1 - 2, r.Uint64() % exp1} {
			checkSqrt(t, field*exp1+x)
		}
		checkSqrt(t, max(field*exp1, 1))
	}
	for k := range 52 {
		for range 20 {
			checkSqrt(t, r.Uint64()>>(12+k)|1)
		}
		checkSqrt(t, 1<<k)
		checkSqrt(t, 2<<k-1)
	}
	for b := uint64(1); b < 3000; b++ {
		checkSqrt(t, b)
		checkSqrt(t, double(b, 0))
	}
	for range 20000 {
		checkSqrt(t, r.Uint64()%infinity|1)
	}
}

// Promise 12.2: roots of squares, and of the doubles beside them.
func TestSqrtOfSquares(t *testing.T) {
	r := rand.New(rand.NewSource(9))
	for range 5000 {
		x, e := r.Uint64()%(1<<26)+1, r.Intn(900)-500
		b := double(x*x, 2*e)
		if got := fprod.Sqrt(b); got != double(x, e) {
			t.Errorf("Sqrt(%x) = %x", b, got)
		}
		checkSqrt(t, b-1)
		checkSqrt(t, b)
		checkSqrt(t, b+1)
	}
}

// rootOf is a number whose square is c modulo 2^k, for c of which the remainder by 8 is 1.
func rootOf(c uint64, k int) uint64 {
	x := uint64(1)
	for i := 3; i < k; i++ {
		if (x*x-c)>>i&1 == 1 {
			x += 1 << (i - 1)
		}
	}
	return x
}

// Promise 12.2: roots as near to the middle of two doubles as can be, below and above: v * 2^k = q * q - c, with q in the middle and c small.
func TestSqrtNearTies(t *testing.T) {
	count := [2]int{}
	for c := int64(-799); c < 800; c += 8 {
		for _, k := range []int{54, 55} {
			x := rootOf(uint64(c), k)
			for _, q := range []uint64{x, -x, x + 1<<(k-1), 1<<(k-1) - x, x + 1<<53, 1<<53 - x} {
				q %= 1 << 54
				v := new(big.Int).SetUint64(q)
				v.Mul(v, v).Sub(v, big.NewInt(c))
				if q>>53 == 0 || v.TrailingZeroBits() < uint(k) || v.BitLen() > k+53 {
					continue
				}
				count[k-54]++
				m := v.Rsh(v, uint(k)).Uint64()
				for _, e := range []int{-1074, -1000, -54, 0, 2, 900} {
					checkSqrt(t, double(m, e+k%2))
				}
			}
		}
	}
	if count[0] < 100 || count[1] < 100 {
		t.Error("too few roots near a middle", count)
	}
}

// Promise 12.3: the order of the factors does not matter, and 1 changes nothing.
func TestMulConsequences(t *testing.T) {
	check := func(a, b uint64) {
		if x, y := fprod.Mul(a, b), fprod.Mul(b, a); x != y {
			t.Errorf("Mul(%x, %x) = %x, but %x the other way round", a, b, x, y)
		}
		clean := a
		if a&^sign > infinity {
			clean = nan
		}
		if x, y := fprod.Mul(one, a), fprod.Mul(a, one); x != clean || y != clean {
			t.Errorf("1 times %x is %x, and %x the other way round", a, x, y)
		}
	}
	for _, a := range kinds() {
		for _, b := range kinds() {
			check(a, b)
		}
	}
	r := rand.New(rand.NewSource(10))
	for range 50000 {
		check(r.Uint64(), r.Uint64())
		check(r.Uint64()>>r.Intn(64), r.Uint64()>>r.Intn(64)|r.Uint64()&sign)
	}
}

// Promise 12.4: from 2^-500 to 2^500, both included, the root of a square is the double without its sign.
func TestSqrtUndoesSquare(t *testing.T) {
	check := func(b uint64) {
		for _, a := range []uint64{b, b | sign} {
			if got := fprod.Sqrt(fprod.Mul(a, a)); got != b {
				t.Errorf("Sqrt(Mul(%x, %x)) = %x", a, a, got)
			}
		}
	}
	r := rand.New(rand.NewSource(11))
	for b := uint64(low500); b < high500; b += exp1 {
		for d := range uint64(10) {
			check(b + d)
			check(b + exp1 - 1 - d)
			check(b + exp1/2 - 5 + d)
			check(b + 0x6a09e667f3bcd - 5 + d)
			check(b + r.Uint64()%exp1)
		}
	}
	check(low500)
	check(high500)
}

// R1 and R5: any words are answered, always in the same way, and what is not a number is Nan.
func TestAnyWords(t *testing.T) {
	r := rand.New(rand.NewSource(12))
	for range 100000 {
		a, b := r.Uint64()|r.Uint64()&(2047<<52), r.Uint64()>>r.Intn(64)|r.Uint64()&sign
		x, y, z := fprod.Mul(a, b), fprod.Div(a, b), fprod.Sqrt(a)
		if x != fprod.Mul(a, b) || y != fprod.Div(a, b) || z != fprod.Sqrt(a) {
			t.Errorf("%x and %x have two answers", a, b)
		}
		for _, c := range []uint64{x, y, z} {
			if c&^sign > infinity && c != nan {
				t.Errorf("%x and %x: %x", a, b, c)
			}
		}
	}
}
