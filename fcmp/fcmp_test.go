package fcmp_test

import (
	"cmp"
	"math"
	"math/big"
	"math/rand"
	"slices"
	"testing"

	"gradine/fcmp"
)

const (
	sign     = 1 << 63
	nan      = 0x7ff8000000000000
	infinity = 0x7ff0000000000000
	greatest = 0x7fefffffffffffff
	normal   = 0x0010000000000000 // the least normal double
	half     = 0x3fe0000000000000
	one      = 0x3ff0000000000000
	two      = 0x4000000000000000
	three    = 0x4008000000000000
	two52    = 0x4330000000000000 // 2^52
	two53    = 0x4340000000000000
	two62    = 0x43d0000000000000
	exp1     = 1 << 52 // 1 in the exponent field: twice the value of a normal double
)

// nones are doubles that are not a number, with and without a sign.
func nones() []uint64 {
	return bothSigns([]uint64{infinity + 1, 0x7ff7ffffffffffff, nan, nan + 1, 0x7fffffffffffffff})
}

// bothSigns are doubles, and the same with a sign.
func bothSigns(list []uint64) []uint64 {
	out := slices.Clone(list)
	for _, b := range list {
		out = append(out, b|sign)
	}
	return out
}

// edges are finite doubles at the borders of the kinds, of powers of 2 and of what Near returns, each with its neighbours, and some between them, with and without a sign.
func edges() []uint64 {
	out := []uint64{0, 1, 2, 3, 4, 5, greatest - 1, greatest, 0x3fd5555555555555, 0x3fb999999999999a, 0x400921fb54442d18}
	for _, b := range []uint64{normal / 2, normal, normal + exp1, normal + 52*exp1, normal + 53*exp1, one - 53*exp1, half, one, two, three, two52, two53, two62, infinity - exp1} {
		out = append(out, b-2, b-1, b, b+1, b+2)
	}
	return bothSigns(out)
}

// numbers are doubles that are numbers or infinite.
func numbers() []uint64 {
	return append(edges(), infinity, infinity|sign)
}

func number(b uint64) float64 {
	return math.Float64frombits(b)
}

func bits(f float64) uint64 {
	return math.Float64bits(f)
}

// exact is the value of a finite double, by a way that does not use the program; the infinities count as 2^1024 and -2^1024, which are past all others.
func exact(b uint64) *big.Rat {
	if b&^sign != infinity {
		return new(big.Rat).SetFloat64(number(b))
	}
	v := times2(big.NewRat(1, 1), 1024)
	if b >= sign {
		v.Neg(v)
	}
	return v
}

// times2 is v * 2^k.
func times2(v *big.Rat, k int) *big.Rat {
	p := new(big.Rat).SetInt(new(big.Int).Lsh(big.NewInt(1), uint(max(k, -k))))
	if k < 0 {
		p.Inv(p)
	}
	return p.Mul(p, v)
}

// wantOrder says how two doubles compare: c is below 0, 0 or above 0.
func wantOrder(t *testing.T, a, b uint64, c int) {
	t.Helper()
	if got := fcmp.Less(a, b); got != (c < 0) {
		t.Errorf("Less(%x, %x) = %t", a, b, got)
	}
	if got := fcmp.Less(b, a); got != (c > 0) {
		t.Errorf("Less(%x, %x) = %t", b, a, got)
	}
	if x, y := fcmp.Same(a, b), fcmp.Same(b, a); x != (c == 0) || y != x {
		t.Errorf("Same(%x, %x) = %t, and %t the other way round", a, b, x, y)
	}
}

// Promise 13.1, with results that are written out: neighbours, numbers with equal and with different signs, subnormal ones and infinities.
func TestOrderExamples(t *testing.T) {
	for _, c := range [][2]uint64{
		{one, two}, {two, three}, {half, one}, {one - 1, one}, {one, one + 1}, {two - 1, two}, {one | sign, one}, {one | sign, two}, {two | sign, one},
		{two | sign, one | sign}, {three | sign, two | sign}, {one | sign, half | sign}, {sign | one, sign | one - 1}, {sign | one + 1, sign | one},
		{0, 1}, {sign, 1}, {sign | 1, 0}, {sign | 1, sign}, {sign | 1, 1}, {1, 2}, {sign | 2, sign | 1}, {normal - 1, normal}, {sign | normal, sign | normal - 1}, {1, normal}, {sign | normal, 1}, {normal - 1, one}, {sign | one, sign | 1},
		{0, one}, {sign, one}, {one | sign, 0}, {one | sign, sign}, {greatest - 1, greatest}, {sign | greatest, sign | greatest - 1}, {sign | greatest, greatest}, {sign | greatest, 1}, {one, greatest},
		{greatest, infinity}, {sign | greatest, infinity}, {0, infinity}, {sign, infinity}, {1, infinity}, {sign | 1, infinity}, {one, infinity},
		{sign | infinity, greatest}, {sign | infinity, sign | greatest}, {sign | infinity, 0}, {sign | infinity, sign}, {sign | infinity, 1}, {sign | infinity, sign | 1}, {sign | infinity, one}, {sign | infinity, infinity},
	} {
		wantOrder(t, c[0], c[1], -1)
	}
	for _, c := range [][2]uint64{{0, 0}, {0, sign}, {sign, 0}, {sign, sign}, {infinity, infinity}, {infinity | sign, infinity | sign}} {
		wantOrder(t, c[0], c[1], 0)
	}
}

// Promise 13.1: what is not a number is neither less nor equal, whichever operand it is and whatever the other one is, even the same word.
func TestOrderOfNoNumber(t *testing.T) {
	for _, a := range nones() {
		for _, b := range append(numbers(), nones()...) {
			if fcmp.Less(a, b) || fcmp.Less(b, a) || fcmp.Same(a, b) || fcmp.Same(b, a) {
				t.Errorf("%x and %x compare", a, b)
			}
		}
	}
}

// checkOrder holds the comparison of two doubles against their values, and against the machine's own.
func checkOrder(t *testing.T, a, b uint64) {
	t.Helper()
	wantOrder(t, a, b, exact(a).Cmp(exact(b)))
	if fcmp.Less(a, b) != (number(a) < number(b)) || fcmp.Same(a, b) != (number(a) == number(b)) {
		t.Errorf("Less(%x, %x) = %t, Same = %t", a, b, fcmp.Less(a, b), fcmp.Same(a, b))
	}
}

// Promise 13.1: each edge with each.
func TestOrderOfEdges(t *testing.T) {
	for _, a := range numbers() {
		for _, b := range numbers() {
			checkOrder(t, a, b)
		}
	}
}

// Promise 13.1: the next double at each exponent, away from 0 and with the other sign, and random ones.
func TestOrderOfNeighbours(t *testing.T) {
	r := rand.New(rand.NewSource(1))
	for field := range uint64(2047) {
		for _, m := range []uint64{0, 1, exp1 - 1, r.Uint64() % exp1} {
			a := field*exp1 + m
			wantOrder(t, a, a, 0)
			wantOrder(t, a|sign, a|sign, 0)
			wantOrder(t, a, a+1, -1)
			wantOrder(t, a|sign, (a+1)|sign, 1)
			wantOrder(t, (a+1)|sign, a, -1)
			wantOrder(t, a|sign, a+1, -1)
		}
	}
	for range 20000 {
		a, b := r.Uint64(), r.Uint64()
		if a&^sign <= infinity && b&^sign <= infinity {
			checkOrder(t, a, b)
			checkOrder(t, a, a^b>>(1+r.Intn(63))&(exp1-1))
		}
	}
}

// Promise 13.3: of less, equal and greater exactly one holds.
func TestExactlyOneHolds(t *testing.T) {
	for _, a := range numbers() {
		for _, b := range numbers() {
			count := 0
			for _, holds := range []bool{fcmp.Less(a, b), fcmp.Same(a, b), fcmp.Less(b, a)} {
				if holds {
					count++
				}
			}
			if count != 1 {
				t.Errorf("%x and %x: %d of less, equal and greater", a, b, count)
			}
		}
	}
}

// Promise 13.3: what is less than something less is less; and what is equal compares alike.
func TestTransitive(t *testing.T) {
	list := append(numbers(), nones()...)
	for _, a := range list {
		for _, b := range list {
			below, same := fcmp.Less(a, b), fcmp.Same(a, b)
			for _, c := range list {
				if below && fcmp.Less(b, c) && !fcmp.Less(a, c) {
					t.Errorf("%x, %x and %x are in order, but not the first and the last", a, b, c)
				}
				if same && (fcmp.Less(a, c) != fcmp.Less(b, c) || fcmp.Less(c, a) != fcmp.Less(c, b)) {
					t.Errorf("%x and %x are equal, but not beside %x", a, b, c)
				}
			}
		}
	}
}

// Promise 13.3: sorted by Less, the values are in order.
func TestSortedByLess(t *testing.T) {
	r := rand.New(rand.NewSource(2))
	list := numbers()
	for range 2000 {
		if b := r.Uint64(); b&^sign < infinity {
			list = append(list, b, b+1, b^sign)
		}
	}
	slices.SortFunc(list, func(a, b uint64) int {
		switch {
		case fcmp.Less(a, b):
			return -1
		case fcmp.Less(b, a):
			return 1
		}
		return 0
	})
	if !slices.IsSortedFunc(list, func(a, b uint64) int { return cmp.Compare(number(a), number(b)) }) {
		t.Error(list)
	}
}

// wantNear calls Near without and with the sign.
func wantNear(t *testing.T, b uint64, want int, ok bool) {
	t.Helper()
	if n, got := fcmp.Near(b); n != want || got != ok {
		t.Errorf("Near(%x) = %d, %t, want %d, %t", b, n, got, want, ok)
	}
	if n, got := fcmp.Near(b | sign); n != -want || got != ok {
		t.Errorf("Near(%x) = %d, %t, want %d, %t", b|sign, n, got, -want, ok)
	}
}

// Promise 13.2, with results that are written out.
func TestNearExamples(t *testing.T) {
	for _, c := range []struct {
		b    uint64
		want int
	}{
		{0, 0}, {1, 0}, {2, 0}, {normal - 1, 0}, {normal, 0}, {one - 53*exp1, 0}, {0x3fd5555555555555, 0}, {half - exp1, 0}, {0x3fe8000000000000, 1}, // 1/4 and 3/4
		{half - 1, 0}, {half, 0}, {half + 1, 1}, {one - 1, 1}, {one, 1}, {one + 1, 1},
		{0x3ff7ffffffffffff, 1}, {0x3ff8000000000000, 2}, {0x3ff8000000000001, 2}, {two, 2}, // around 3/2
		{0x4003ffffffffffff, 2}, {0x4004000000000000, 2}, {0x4004000000000001, 3}, {three, 3}, // around 5/2
		{0x400bffffffffffff, 3}, {0x400c000000000000, 4}, {0x400c000000000001, 4}, // around 7/2
		{bits(1e6 + 0.5), 1000000}, {bits(1e6+0.5) + 1, 1000001}, {bits(1e6 + 1.5), 1000002}, {bits(1e6+1.5) - 1, 1000001},
		{0x431fffffffffffff, 1 << 51}, {0x431ffffffffffffe, 1 << 51}, {0x431ffffffffffffd, 1<<51 - 1}, {0x431ffffffffffffc, 1<<51 - 1}, // quarters below 2^51
		{0x4320000000000001, 1 << 51}, {0x4320000000000003, 1<<51 + 2}, {0x4320000000000002, 1<<51 + 1}, // halves above it
		{two52 - 1, 1 << 52}, {two52 - 2, 1<<52 - 1}, {two52 - 3, 1<<52 - 2}, {two52 - 4, 1<<52 - 2}, {two52, 1 << 52}, {two52 + 1, 1<<52 + 1},
		{two53 - 2, 1<<53 - 2}, {two53 - 1, 1<<53 - 1}, {two53, 1 << 53}, {two53 + 1, 1<<53 + 2}, {two53 + 2, 1<<53 + 4},
		{two62 - exp1, 1 << 61}, {two62 - exp1 + 1, 1<<61 + 1<<9}, {two62 - 2, 1<<62 - 1<<10}, {two62 - 1, 1<<62 - 1<<9},
	} {
		wantNear(t, c.b, c.want, true)
	}
}

// Promise 13.2 and R2: where there is no integer, the result is 0.
func TestNearOfTooMuch(t *testing.T) {
	for _, b := range append(nones(), two62, two62+1, two62+exp1-1, two62+exp1, two62+exp1+1, two62+2*exp1, two62+63*exp1, two62+64*exp1, infinity-exp1, greatest-1, greatest, infinity) {
		wantNear(t, b, 0, false)
	}
}

// checkNear holds the integer nearest to a finite double against the definition, and against the machine's own.
func checkNear(t *testing.T, b uint64) {
	t.Helper()
	n, ok := fcmp.Near(b)
	v := exact(b)
	if small := new(big.Rat).Abs(v).Cmp(big.NewRat(1<<62, 1)) < 0; ok != small || !ok && n != 0 {
		t.Errorf("Near(%x) = %d, %t", b, n, ok)
	}
	if !ok {
		return
	}
	off := new(big.Rat).Sub(v, new(big.Rat).SetInt64(int64(n)))
	c := off.Abs(off).Cmp(big.NewRat(1, 2))
	if c > 0 || c == 0 && n%2 != 0 {
		t.Errorf("Near(%x) = %d is not the nearest integer", b, n)
	}
	if want := math.RoundToEven(number(b)); want != float64(n) {
		t.Errorf("Near(%x) = %d, want %v", b, n, want)
	}
}

// Promise 13.2: the edges, and doubles at each exponent.
func TestNear(t *testing.T) {
	for _, b := range edges() {
		checkNear(t, b)
	}
	r := rand.New(rand.NewSource(3))
	for field := range uint64(2047) {
		for _, m := range []uint64{0, 1, exp1 / 2, exp1 - 1, r.Uint64() % exp1} {
			checkNear(t, field*exp1+m)
			checkNear(t, field*exp1+m|sign)
		}
	}
	for range 20000 {
		b := (one - 3*exp1) + uint64(r.Intn(70))*exp1 + r.Uint64()%exp1
		checkNear(t, b&^(1<<r.Intn(53)-1)|r.Uint64()&sign)
	}
}

// Promise 13.2: exactly between two integers of each length, just below and just above, where the even one lies below and where it lies above.
func TestNearTies(t *testing.T) {
	r := rand.New(rand.NewSource(4))
	for k := 1; k <= 52; k++ {
		for range 20 {
			n := 1<<(k-1) | r.Intn(1<<(k-1)) // of k bits, so that there is a double between it and the next one
			even := n + n%2
			b := bits(float64(n) + 0.5)
			wantNear(t, b, even, true)
			// With all bits used, the next doubles are integers.
			if k < 52 {
				wantNear(t, b-1, n, true)
				wantNear(t, b+1, n+1, true)
			}
			checkNear(t, b-1)
			checkNear(t, b+1)
		}
	}
}

// wantScale calls Scale without and with the sign.
func wantScale(t *testing.T, b uint64, k int, want uint64) {
	t.Helper()
	if got := fcmp.Scale(b, k); got != want {
		t.Errorf("Scale(%x, %d) = %x, want %x", b, k, got, want)
	}
	if got := fcmp.Scale(b|sign, k); got != want|sign {
		t.Errorf("Scale(%x, %d) = %x, want %x", b|sign, k, got, want|sign)
	}
}

// Promise 13.2, with results that are written out.
func TestScaleExamples(t *testing.T) {
	for _, c := range []struct {
		b    uint64
		k    int
		want uint64
	}{
		{one, 0, one}, {one, 1, two}, {one, -1, half}, {three, 0, three}, {three, -1, 0x3ff8000000000000}, {0x3fb999999999999a, 3, 0x3fe999999999999a}, {one + 1, 52, two52 + 1},
		{one, -1074, 1}, {one, -1075, 0}, {one + 1, -1075, 1}, {one - 1, -1075, 0}, {one, -1076, 0}, {two - 1, -1076, 0}, {two, -1076, 0}, {two + 1, -1076, 1}, {two - 1, -1075, 1}, // around half of the least subnormal double
		{three, -1075, 2}, {three + 1, -1075, 2}, {three - 1, -1075, 1}, {0x4014000000000000, -1075, 2}, {0x4014000000000001, -1075, 3}, {0x4014000000000000 - 1, -1075, 2}, // around 3/2 and 5/2 of it
		{one, -1022, normal}, {one, -1023, normal / 2}, {one - 1, -1022, normal}, {one - 2, -1022, normal - 1}, {one - 3, -1022, normal - 2}, {one - 4, -1022, normal - 2}, {one + 1, -1022, normal + 1}, {one + 1, -1023, normal / 2}, {one + 3, -1023, normal/2 + 2}, {one + 2, -1023, normal/2 + 1}, {two - 1, -1023, normal},
		{one, 1023, infinity - exp1}, {one, 1024, infinity}, {two - 1, 1023, greatest}, {two - 2, 1023, greatest - 1}, {two, 1023, infinity}, {two - 1, 1024, infinity},
		{1, 0, 1}, {1, 1, 2}, {1, -1, 0}, {2, -1, 1}, {3, -1, 2}, {5, -1, 2}, {6, -1, 3}, {7, -1, 4}, {3, -2, 1}, {2, -2, 0}, {5, -3, 1}, {4, -3, 0}, {1, 1074, one}, {3, 1074, three}, {1, 52, normal}, {1, 51, normal / 2}, {1, 2097, infinity - exp1}, {1, 2098, infinity}, {normal - 1, 1, normal + exp1 - 2}, {normal - 1, 2046, greatest - 1}, {normal - 1, 2047, infinity}, {normal / 2, 1, normal},
		{normal, -1, normal / 2}, {normal, -52, 1}, {normal, -53, 0}, {normal + 1, -53, 1}, {normal - 1, -53, 0}, {normal + 1, -1, normal / 2}, {normal + 3, -1, normal/2 + 2}, {normal + exp1 - 1, -1, normal}, {normal + exp1, -1, normal}, {normal, 2045, infinity - exp1}, {normal, 2046, infinity},
		{greatest, 0, greatest}, {greatest, 1, infinity}, {greatest, -1, greatest - exp1}, {greatest, -2045, normal + exp1 - 1}, {greatest, -2046, normal}, {greatest, -2097, 2}, {greatest, -2098, 1}, {greatest, -2099, 0}, {infinity - exp1, -2098, 0}, {infinity - exp1 + 1, -2098, 1}, {infinity - exp1, -2097, 1}, {greatest - exp1, 1, greatest}, {greatest - exp1, 2, infinity},
	} {
		wantScale(t, c.b, c.k, c.want)
	}
}

// farOut are exponents that make each finite double but 0 infinite, with those that could overflow when another one is added.
func farOut() []int {
	return []int{2098, 2099, 2200, 3000, 4096, 1<<16 - 1, 1 << 16, 1<<31 - 1, 1 << 31, 1 << 32, 1<<32 + 1, 1 << 62, math.MaxInt - 2000, math.MaxInt - 971, math.MaxInt - 970, math.MaxInt - 1, math.MaxInt}
}

// Promise 13.2 and R6: exponents of any size.
func TestScaleFarOut(t *testing.T) {
	for _, b := range edges() {
		if b&^sign == 0 {
			continue
		}
		for _, k := range farOut() {
			wantScale(t, b&^sign, k, infinity)
			wantScale(t, b&^sign, min(-k, -2099), 0)
		}
		wantScale(t, b&^sign, math.MinInt, 0)
		wantScale(t, b&^sign, math.MinInt+1074, 0)
		wantScale(t, b&^sign, 0, b&^sign)
	}
}

// exponents are of all sizes.
func exponents() []int {
	out := []int{math.MinInt, math.MinInt + 1, math.MinInt + 1074, 0}
	for _, k := range append(farOut(), 1, 2, 3, 10, 51, 52, 53, 54, 63, 64, 65, 971, 1021, 1022, 1023, 1024, 1025, 1073, 1074, 1075, 1076, 2045, 2046, 2047, 2096, 2097) {
		out = append(out, k, -k)
	}
	return out
}

// Promise 13.2: zeros and infinities stay as they are, and what is not a number becomes Nan without a sign, whatever the exponent.
func TestScaleOfOthers(t *testing.T) {
	for _, k := range exponents() {
		wantScale(t, 0, k, 0)
		wantScale(t, infinity, k, infinity)
		for _, b := range nones() {
			if got := fcmp.Scale(b, k); got != nan {
				t.Errorf("Scale(%x, %d) = %x", b, k, got)
			}
		}
	}
}

// checkScale holds a scaled finite double against the double nearest to the exact value, and against the machine's own.
func checkScale(t *testing.T, b uint64, k int) {
	t.Helper()
	got := fcmp.Scale(b, k)
	// Beyond these bounds all is infinite or 0, and the machine's exponents would overflow.
	bounded := min(max(k, -3000), 3000)
	f, _ := times2(exact(b), bounded).Float64()
	if want := bits(math.Copysign(f, number(b))); got != want {
		t.Errorf("Scale(%x, %d) = %x, but the nearest double is %x", b, k, got, want)
	}
	if want := bits(math.Ldexp(number(b), bounded)); got != want {
		t.Errorf("Scale(%x, %d) = %x, want %x", b, k, got, want)
	}
}

// Promise 13.2: each edge with exponents of all sizes.
func TestScaleEdges(t *testing.T) {
	for _, b := range edges() {
		for _, k := range exponents() {
			checkScale(t, b, k)
		}
	}
}

// Promise 13.2: a double at each exponent, brought to the places where doubles begin and end.
func TestScaleToTheEnds(t *testing.T) {
	r := rand.New(rand.NewSource(5))
	for field := range 2047 {
		for _, m := range []uint64{0, 1, exp1/2 - 1, exp1 / 2, exp1/2 + 1, exp1 - 2, exp1 - 1, r.Uint64() % exp1} {
			b := uint64(field)*exp1 + m
			for _, goal := range []int{-53, -52, -51, -2, -1, 0, 1, 2, 2045, 2046, 2047} {
				checkScale(t, b|r.Uint64()&sign, goal-field)
			}
		}
	}
}

// Promise 13.2: results exactly between two subnormal doubles, just below and just above, where the even one lies below and where it lies above.
func TestScaleTies(t *testing.T) {
	r := rand.New(rand.NewSource(6))
	for drop := 1; drop <= 52; drop++ {
		for range 30 {
			kept := r.Uint64() >> (64 - (53 - drop)) // what is left of 53 bits
			m := kept<<drop | 1<<(drop-1)
			b := bits(float64(m))
			wantScale(t, b, -1074-drop, kept+kept%2)
			if drop > 1 {
				wantScale(t, bits(float64(m-1)), -1074-drop, kept)
				wantScale(t, bits(float64(m+1)), -1074-drop, kept+1)
			}
			checkScale(t, b-1, -1074-drop)
			checkScale(t, b+1, -1074-drop)
		}
	}
}

// Promise 13.2: random doubles and exponents.
func TestScaleRandom(t *testing.T) {
	r := rand.New(rand.NewSource(7))
	for range 20000 {
		if b := r.Uint64() >> r.Intn(20) & ^(r.Uint64() & r.Uint64() & (exp1 - 1)); b&^sign < infinity {
			checkScale(t, b, r.Intn(4400)-2200)
		}
	}
}

// R1 and R5: any words and ints are answered, always in the same way, and what is not a number is Nan.
func TestAnyArguments(t *testing.T) {
	r := rand.New(rand.NewSource(8))
	for range 50000 {
		a, b, k := r.Uint64()|r.Uint64()&(2047<<52), r.Uint64(), int(r.Uint64())>>r.Intn(64)
		if fcmp.Less(a, b) != fcmp.Less(a, b) || fcmp.Same(a, b) != fcmp.Same(a, b) || fcmp.Scale(a, k) != fcmp.Scale(a, k) {
			t.Errorf("%x, %x and %d have two answers", a, b, k)
		}
		if n, ok := fcmp.Near(a); !ok && n != 0 || max(n, -n) >= 1<<62 {
			t.Errorf("Near(%x) = %d, %t", a, n, ok)
		}
		if s := fcmp.Scale(a, k); s&^sign > infinity && s != nan {
			t.Errorf("Scale(%x, %d) = %x", a, k, s)
		}
	}
}
