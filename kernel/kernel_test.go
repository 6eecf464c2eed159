package kernel_test

import (
	"math"
	"math/rand"
	"slices"
	"testing"

	"gradine/kernel"
)

const (
	sign     = 1 << 63
	nan      = 0x7ff8000000000000
	infinity = 0x7ff0000000000000
	greatest = 0x7fefffffffffffff
	normal   = 0x0010000000000000 // the least normal double
	half     = 0x3fe0000000000000
	one      = 0x3ff0000000000000
	two      = 0x4000000000000000
	exp1     = 1 << 52 // 1 in the exponent field: twice the value of a normal double
	root2    = 0x3ff6a09e667f3bcd
	most     = 0x4086300000000000 // 710
	least    = 0xc087500000000000 // -746
)

// nones are doubles that are not a number, with and without a sign.
func nones() []uint64 {
	out := []uint64{infinity + 1, 0x7ff7ffffffffffff, nan, nan + 1, 0x7fffffffffffffff}
	for _, b := range slices.Clone(out) {
		out = append(out, b|sign)
	}
	return out
}

func number(b uint64) float64 {
	return math.Float64frombits(b)
}

func bits(f float64) uint64 {
	if f != f {
		return nan
	}
	return math.Float64bits(f)
}

// ln2 is k times L and k times l; each conversion rounds, so that the machine does not fuse a product with the sum that follows.
func ln2(k int) (float64, float64) {
	return float64(float64(k) * number(0x3fe62e42fee00000)), float64(float64(k) * number(0x3dea39ef35793c76))
}

// turns is the k of Exp.
func turns(x float64) int {
	return int(math.RoundToEven(float64(x * number(0x3ff71547652b82fe))))
}

// expSteps is Exp as the document gives its operations, with the machine's own doubles.
func expSteps(x float64) float64 {
	switch {
	case x != x:
		return x
	case 710 < x:
		return math.Inf(1)
	case x < -746:
		return 0
	}
	k := turns(x)
	high, low := ln2(k)
	r := float64(x-high) - low
	p := 1 / factorial(13)
	for i := 12; i >= 0; i-- {
		p = float64(p*r) + 1/factorial(i)
	}
	return math.Ldexp(p, k)
}

func factorial(n int) float64 {
	out := 1
	for i := 2; i <= n; i++ {
		out *= i
	}
	return float64(out)
}

// logSteps is Log as the document gives its operations, with the machine's own doubles.
func logSteps(x float64) float64 {
	switch {
	case x == 0:
		return math.Inf(-1)
	case x != x || x < 0:
		return math.NaN()
	case math.IsInf(x, 1):
		return x
	}
	f, k := math.Frexp(x)
	f, k = 2*f, k-1
	if number(root2) < f {
		f, k = f/2, k+1
	}
	t := f - 1
	s := t / (2 + t)
	z := float64(s * s)
	p := 1.0 / 21
	for i := 9; i >= 1; i-- {
		p = float64(p*z) + 1/float64(2*i+1)
	}
	u := s + s
	y := u + float64(u*float64(p*z))
	if k == 0 {
		return y
	}
	high, low := ln2(k)
	return high + (y + low)
}

func checkExp(t *testing.T, x uint64) {
	t.Helper()
	if got, want := kernel.Exp(x), bits(expSteps(number(x))); got != want {
		t.Errorf("Exp(%x) = %x, want %x", x, got, want)
	}
}

func checkLog(t *testing.T, x uint64) {
	t.Helper()
	if got, want := kernel.Log(x), bits(logSteps(number(x))); got != want {
		t.Errorf("Log(%x) = %x, want %x", x, got, want)
	}
}

// Promise 14.1, with results that are written out.
func TestExpExamples(t *testing.T) {
	for _, c := range [][2]uint64{
		{0, one}, {sign, one}, {one, 0x4005bf0a8b14576a}, {one | sign, 0x3fd78b56362cef38}, {two, 0x401d8e64b8d4ddae}, {half, 0x3ffa61298e1e069c}, {half | sign, 0x3fe368b2fc6f960a},
		{0x3fb999999999999a, 0x3ff1aec7b35a00d4}, {0x4024000000000000, 0x40d5829dcf950560}, {0xc024000000000000, 0x3f07cd79b5647c9a}, // 0.1, 10, -10
		{0x4059000000000000, 0x48f3494a9b171bf5}, {0xc059000000000000, 0x36ea8c1f14e2af5d}, {0x4086280000000000, 0x7fdd422d2be5dc9b}, {0xc086200000000000, 0x0017c8ab2288c9ac}, // 100, -100, 709, -708
		{1, one}, {1 | sign, one}, {normal - 1, one}, {normal, one}, {normal | sign, one}, {0x3ca0000000000000, one}, {0x3cb0000000000000, one + 1}, {0xbca0000000000000, one - 1}, // 2^-53, 2^-52, -2^-53
		{most - 1, infinity}, {most, infinity}, {most + 1, infinity}, {0x408f400000000000, infinity}, {greatest, infinity}, {infinity, infinity},
		{0x40862e42fefa39ee, 0x7feffffffffffb2a}, {0x40862e42fefa39ef, 0x7fefffffffffff2a}, {0x40862e42fefa39f0, infinity}, // around the logarithm of the greatest double
		{least - 1, 0}, {least, 0}, {least + 1, 0}, {0xc08f400000000000, 0}, {greatest | sign, 0}, {infinity | sign, 0},
		{0xc0874910d52d3050, 1}, {0xc0874910d52d3051, 1}, {0xc0874910d52d3052, 0}, {0xc087480000000000, 1}, // around the logarithm of half of the least double
		{0xc086232bdd7abcd1, 0x001000000000027c}, {0xc086232bdd7abcd2, 0x001000000000007c}, {0xc086232bdd7abcd3, 0x000ffffffffffe7c}, // around that of the least normal one
	} {
		if got := kernel.Exp(c[0]); got != c[1] {
			t.Errorf("Exp(%x) = %x, want %x", c[0], got, c[1])
		}
	}
}

// Promise 14.1, with results that are written out: neighbours between which k changes; in some pairs the product is exactly between two integers.
func TestExpWhereTurnsChangeExamples(t *testing.T) {
	for _, c := range [][2]uint64{
		{0x3fd62e42fefa39ee, 0x3ff6a09e667f3bcc}, {0x3fd62e42fefa39ef, 0x3ff6a09e667f3bcc}, {0x3fd62e42fefa39f0, 0x3ff6a09e667f3bcd}, {0xbfd62e42fefa39ee, 0x3fe6a09e667f3bcd}, {0xbfd62e42fefa39ef, 0x3fe6a09e667f3bcc}, {0xbfd62e42fefa39f0, 0x3fe6a09e667f3bcc},
		{0x3ff0a2b23f3bab73, 0x4006a09e667f3bcc}, {0x3ff0a2b23f3bab74, 0x4006a09e667f3bce}, {0xbff0a2b23f3bab73, 0x3fd6a09e667f3bcd}, {0xbff0a2b23f3bab74, 0x3fd6a09e667f3bcc}, {0x3ffbb9d3beb8c86b, 0x4016a09e667f3bcc}, {0x3ffbb9d3beb8c86c, 0x4016a09e667f3bce},
		{0x407628b76e3a7b60, 0x5fe6a09e667f3ac6}, {0x407628b76e3a7b61, 0x5fe6a09e667f3c30}, {0x408625f1a5da9c19, 0x7fd6a09e667f3a6e}, {0x408625f1a5da9c1a, 0x7fd6a09e667f3d42}, {0x40862b7d369a5aa7, 0x7fe6a09e667f3910}, {0x40862b7d369a5aa8, 0x7fe6a09e667f3be4},
		{0xc0862066151add8a, 0x0016a09e667f3ea0}, {0xc0862066151add8b, 0x0016a09e667f3bcc}, {0xc087464b0ccd510b, 1}, {0xc087464b0ccd510c, 1}, {0xc0874bd69d8d0f98, 0}, {0xc0874bd69d8d0f99, 0},
		{0xc085f4098f1ce917, 0x0096a09e667f3c2c}, {0xc085ee7dfe5d2a89, 0x00a6a09e667f3ace}, {0x4085ff20b09c6634, 0x7f66a09e667f3b86}, {0x40860a37d21be351, 0x7f86a09e667f3b9e}, // here the even integer makes another result than the odd one
	} {
		if got := kernel.Exp(c[0]); got != c[1] {
			t.Errorf("Exp(%x) = %x, want %x", c[0], got, c[1])
		}
	}
}

// Promise 14.1, with results that are written out: arguments at which l with another last bit, and then one of the factorials of 7 to 13 that is 1 less or 1 greater, would make another result.
func TestExpConstants(t *testing.T) {
	for _, c := range [][2]uint64{
		{0xc0817569bccb860c, 0x0d8ffffb99ba848e}, {0x408070ca288b9d59, 0x6f6000001b49cffc}, {0xc080446da2858a48, 0x10ffffffe9e6d4c6}, {0x4071acdd63706b3d, 0x59700000410512e5},
		{0x3fd54fc2e77e871e, 0x3ff6527c17e4e145}, {0xbfd6077c4bce65a8, 0x3fe6ae582cd8d944}, {0x3fd569b80748f2a6, 0x3ff65b8ba57bb092}, {0xbfd58ebfba8705e6, 0x3fe6d94a5b5fb30c}, {0x3fd53a4956cc5296, 0x3ff64affe25153a8}, {0x3fd558db49f1477b, 0x3ff655a86c546cec}, {0xbfd5cbd7c14bacbe, 0x3fe6c385125c4d9c}, {0x3fd5e49793af36e4, 0x3ff686a18e9b51b2},
		{0x3fd56c2c548d4409, 0x3ff65c6726f96b04}, {0x3fd5b1c3a1a6270b, 0x3ff674c4e00f17ff}, {0xbfd6040e26c982b2, 0x3fe6af8f6a1835e1}, {0xbfd61d6ace79263d, 0x3fe6a693c6090553}, {0xbfd5ddbc37b4112a, 0x3fe6bd28c4030d9d}, {0xbfd61b059cd6a0bc, 0x3fe6a76ccf292b8b},
	} {
		if got := kernel.Exp(c[0]); got != c[1] {
			t.Errorf("Exp(%x) = %x, want %x", c[0], got, c[1])
		}
	}
}

// Promise 14.2, with results that are written out.
func TestLogExamples(t *testing.T) {
	for _, c := range [][2]uint64{
		{0, infinity | sign}, {sign, infinity | sign}, {infinity, infinity}, {infinity | sign, nan}, {one | sign, nan}, {1 | sign, nan}, {normal | sign, nan}, {greatest | sign, nan}, {two | sign, nan},
		{one - 1, 0xbca0000000000000}, {one, 0}, {one + 1, 0x3cb0000000000000},
		{two - 1, 0x3fe62e42fefa39ee}, {two, 0x3fe62e42fefa39ef}, {two + 1, 0x3fe62e42fefa39f1}, {half - 1, 0xbfe62e42fefa39f0}, {half, 0xbfe62e42fefa39ef}, {half + 1, 0xbfe62e42fefa39ed},
		{root2 - 1, 0x3fd62e42fefa39ed}, {root2, 0x3fd62e42fefa39f1}, {root2 + 1, 0x3fd62e42fefa39f3},
		{root2 + exp1 - 1, 0x3ff0a2b23f3bab73}, {root2 + exp1, 0x3ff0a2b23f3bab74}, {root2 + exp1 + 1, 0x3ff0a2b23f3bab74},
		{root2 - exp1 - 1, 0xbfd62e42fefa39f1}, {root2 - exp1, 0xbfd62e42fefa39ed}, {root2 - exp1 + 1, 0xbfd62e42fefa39eb},
		{0x4008000000000000, 0x3ff193ea7aad030b}, {0x4024000000000000, 0x40026bb1bbb55516}, {0x3fb999999999999a, 0xc0026bb1bbb55515}, {0x4059000000000000, 0x40126bb1bbb55516}, {0x4005bf0a8b145769, one}, // 3, 10, 0.1, 100, e
		{1, 0xc0874385446d71c3}, {2, 0xc0873df9b3adb335}, {3, 0xc0873abb4f301b42}, {normal / 2, 0xc08628b76e3a7b61}, {normal - 1, 0xc086232bdd7abcd2}, {normal, 0xc086232bdd7abcd2},
		{infinity - exp1, 0x408628b76e3a7b61}, {greatest, 0x40862e42fefa39ef},
	} {
		if got := kernel.Log(c[0]); got != c[1] {
			t.Errorf("Log(%x) = %x, want %x", c[0], got, c[1])
		}
	}
}

// Promises 14.1 and 14.2: what is not a number makes the result Nan, without a sign.
func TestNoNumber(t *testing.T) {
	for _, x := range nones() {
		if a, b := kernel.Exp(x), kernel.Log(x); a != nan || b != nan {
			t.Errorf("Exp(%x) = %x, Log = %x", x, a, b)
		}
	}
}

// Promise 14.1: beyond 710 and -746 the result is infinite or 0, and at the bounds themselves the operations say what it is.
func TestExpBounds(t *testing.T) {
	for d := range uint64(50) {
		for _, x := range []uint64{most - d, most + d, least - d, least + d} {
			checkExp(t, x)
		}
	}
	for x := uint64(most + 1); x < infinity; x += exp1 / 4 {
		if a, b := kernel.Exp(x), kernel.Exp(x|sign); a != infinity || x > least&^sign && b != 0 {
			t.Errorf("Exp(%x) = %x, and of the negative %x", x, a, b)
		}
	}
}

// Promise 14.1: the doubles on both sides of each place where k changes, among them those whose product is exactly between two integers.
func TestExpWhereTurnsChange(t *testing.T) {
	ties := [2]int{}
	for n := -1077; n < 1024; n++ {
		middle := float64(n) + 0.5
		x := bits(middle * math.Ln2)
		for d := range uint64(9) {
			checkExp(t, x-4+d)
			if number(x-4+d)*number(0x3ff71547652b82fe) == middle {
				ties[n&1]++
			}
		}
		if turns(number(x-4)) == turns(number(x+4)) {
			t.Errorf("k does not change around %x", x)
		}
	}
	if ties[0] < 500 || ties[1] < 500 {
		t.Error("too few ties", ties)
	}
}

// Promise 14.1: arguments of each size, and random ones from all of the range in which the operations are done.
func TestExpSteps(t *testing.T) {
	r := rand.New(rand.NewSource(1))
	for field := range uint64(2047) {
		for _, m := range []uint64{0, 1, exp1 - 1, r.Uint64() % exp1} {
			checkExp(t, field*exp1+m)
			checkExp(t, field*exp1+m|sign)
		}
	}
	for range 40000 {
		checkExp(t, bits(r.Float64()*1460-748))
		checkExp(t, bits(r.Float64()*8-4))
	}
	for n := -750; n <= 715; n++ {
		checkExp(t, bits(float64(n)))
		checkExp(t, bits(float64(n)/64))
	}
}

// Promise 14.1: results that are subnormal or 0, or near to the greatest double.
func TestExpToTheEnds(t *testing.T) {
	r := rand.New(rand.NewSource(2))
	subnormal := 0
	for range 20000 {
		x := bits(-708.3 - r.Float64()*38)
		checkExp(t, x)
		if got := kernel.Exp(x); got > 0 && got < normal {
			subnormal++
		}
		checkExp(t, bits(709+r.Float64()*1.1))
	}
	if subnormal < 10000 {
		t.Error("too few subnormal results", subnormal)
	}
	for _, x := range []uint64{0x40862e42fefa39ef, 0xc0874910d52d3051, 0xc0874385446d71c3, 0xc086232bdd7abcd2} {
		for d := range uint64(200) {
			checkExp(t, x-100+d)
		}
	}
}

// Promise 14.2: powers of 2, the places where f is halved, and random doubles, at each exponent.
func TestLogSteps(t *testing.T) {
	r := rand.New(rand.NewSource(3))
	for field := range uint64(2047) {
		for _, m := range []uint64{0, root2 % exp1, exp1 / 2} {
			for d := range uint64(9) {
				checkLog(t, max(field*exp1+m, 4)-4+d)
			}
		}
		for range 8 {
			checkLog(t, field*exp1+r.Uint64()%exp1)
		}
	}
	for range 40000 {
		checkLog(t, half+r.Uint64()%(2*exp1))
		checkLog(t, one-16+uint64(r.Intn(33)))
	}
}

// Promise 14.2: subnormal doubles of each length, and powers of 2 among them.
func TestLogOfSubnormal(t *testing.T) {
	r := rand.New(rand.NewSource(4))
	for k := range 52 {
		checkLog(t, 1<<k)
		checkLog(t, 1<<k|1)
		checkLog(t, 2<<k-1)
		for d := range uint64(3) {
			checkLog(t, (root2%exp1|exp1)>>(52-k)-1+d)
		}
		for range 50 {
			checkLog(t, 1<<k|r.Uint64()%(1<<k))
		}
	}
}

// Promises 14.2 and 14.3: with a sign, only 0 has a logarithm.
func TestLogWithSign(t *testing.T) {
	r := rand.New(rand.NewSource(5))
	for range 20000 {
		x := r.Uint64()>>r.Intn(64) | sign
		want := uint64(nan)
		if x == sign {
			want = infinity | sign
		}
		if got := kernel.Log(x); got != want {
			t.Errorf("Log(%x) = %x", x, got)
		}
	}
}

// anyNumbers are numbers without a sign, at the edges, next to 1, at each exponent, and the infinity.
func anyNumbers() []uint64 {
	out := []uint64{0, 1, 2, normal - 1, normal, greatest, infinity, root2 - 1, root2, root2 + 1, most - 1, most, most + 1, least&^sign - 1, least &^ sign, least&^sign + 1}
	for k := range uint64(200) {
		out = append(out, one-1-k, one+1+k, two-1-k, two+k, half-1-k, half+k)
	}
	r := rand.New(rand.NewSource(6))
	for field := range uint64(2047) {
		for range 4 {
			out = append(out, field*exp1, field*exp1+r.Uint64()%exp1)
		}
	}
	return out
}

// Promise 14.3: the signs of the results, and where the results are exact.
func TestSigns(t *testing.T) {
	if a, b, c := kernel.Exp(0), kernel.Exp(sign), kernel.Log(one); a != one || b != one || c != 0 {
		t.Errorf("Exp(0) = %x, Exp(-0) = %x, Log(1) = %x", a, b, c)
	}
	for _, x := range anyNumbers() {
		for _, x := range []uint64{x, x | sign} {
			if got := kernel.Exp(x); got > infinity {
				t.Errorf("Exp(%x) = %x", x, got)
			}
		}
		got := kernel.Log(x)
		if x > one && (got == 0 || got > infinity) {
			t.Errorf("Log(%x) = %x", x, got)
		}
		if x < one && (got <= sign || got > infinity|sign) {
			t.Errorf("Log(%x) = %x", x, got)
		}
	}
}

// R1 and R5: any words are answered, always in the same way, and what is not a number is Nan.
func TestAnyWords(t *testing.T) {
	r := rand.New(rand.NewSource(7))
	for range 20000 {
		x := r.Uint64() | r.Uint64()&r.Uint64()&(2047<<52)
		a, b := kernel.Exp(x), kernel.Log(x)
		if a != kernel.Exp(x) || b != kernel.Log(x) {
			t.Errorf("%x has two answers", x)
		}
		if a&^sign > infinity && a != nan || b&^sign > infinity && b != nan {
			t.Errorf("Exp(%x) = %x, Log = %x", x, a, b)
		}
		checkExp(t, x)
		checkLog(t, x)
	}
}
