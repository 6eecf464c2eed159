package fbits_test

import (
	"cmp"
	"math"
	"math/big"
	"math/rand"
	"slices"
	"testing"

	"gradine/fbits"
)

const sign = 1 << 63

// facts are what a double is, written out.
type facts struct {
	b    uint64
	kind int
	m    uint64
	e    int
}

// edges are the doubles without a sign at the borders of the kinds, and some between them.
func edges() []facts {
	return []facts{
		{0, fbits.Zero, 0, -1074},
		{1, fbits.Subnormal, 1, -1074},
		{2, fbits.Subnormal, 2, -1074},
		{0x0008000000000000, fbits.Subnormal, 1 << 51, -1074},
		{0x000ffffffffffffe, fbits.Subnormal, 1<<52 - 2, -1074},
		{0x000fffffffffffff, fbits.Subnormal, 1<<52 - 1, -1074},
		{0x0010000000000000, fbits.Normal, 1 << 52, -1074},
		{0x0010000000000001, fbits.Normal, 1<<52 + 1, -1074},
		{0x001fffffffffffff, fbits.Normal, 1<<53 - 1, -1074},
		{0x0020000000000000, fbits.Normal, 1 << 52, -1073},
		{0x3fd5555555555555, fbits.Normal, 0x15555555555555, -54},
		{0x3fefffffffffffff, fbits.Normal, 1<<53 - 1, -53},
		{0x3ff0000000000000, fbits.Normal, 1 << 52, -52},
		{0x3ff0000000000001, fbits.Normal, 1<<52 + 1, -52},
		{0x4008000000000000, fbits.Normal, 3 << 51, -51},
		{0x4330000000000000, fbits.Normal, 1 << 52, 0},
		{0x4340000000000000, fbits.Normal, 1 << 52, 1},
		{0x7fe0000000000000, fbits.Normal, 1 << 52, 971},
		{0x7feffffffffffffe, fbits.Normal, 1<<53 - 2, 971},
		{0x7fefffffffffffff, fbits.Normal, 1<<53 - 1, 971},
		{0x7ff0000000000000, fbits.Infinite, 0, 0},
		{0x7ff0000000000001, fbits.None, 0, 0},
		{0x7ff7ffffffffffff, fbits.None, 0, 0},
		{0x7ff8000000000000, fbits.None, 0, 0},
		{0x7ff8000000000001, fbits.None, 0, 0},
		{0x7fffffffffffffff, fbits.None, 0, 0},
	}
}

// doubles are the edges and random ones of all sizes, with and without a sign.
func doubles() []uint64 {
	var out []uint64
	for _, c := range edges() {
		out = append(out, c.b)
	}
	r := rand.New(rand.NewSource(1))
	for field := range uint64(2048) {
		out = append(out, field<<52, field<<52|1, field<<52|r.Uint64()>>12, field<<52|(1<<52-1))
	}
	for _, b := range slices.Clone(out) {
		out = append(out, b|sign)
	}
	return out
}

// twoTo is 2^e, by a way that does not use the program.
func twoTo(e int) *big.Rat {
	v := new(big.Rat).SetInt(new(big.Int).Lsh(big.NewInt(1), uint(max(e, -e))))
	if e < 0 {
		v.Inv(v)
	}
	return v
}

// value is m * 2^e, by a way that does not use the program.
func value(m uint64, e int) *big.Rat {
	v := new(big.Rat).SetInt(new(big.Int).SetUint64(m))
	return v.Mul(v, twoTo(e))
}

// Promise 9.1: the kinds have these numbers, in this order.
func TestKindNumbers(t *testing.T) {
	got := [5]int{fbits.Zero, fbits.Subnormal, fbits.Normal, fbits.Infinite, fbits.None}
	if got != [5]int{0, 1, 2, 3, 4} {
		t.Error(got)
	}
}

// Promise 9.1, with results that are written out.
func TestPartsOfEdges(t *testing.T) {
	for _, c := range edges() {
		for _, neg := range []bool{false, true} {
			b := c.b
			if neg {
				b |= sign
			}
			if k := fbits.Kind(b); k != c.kind {
				t.Errorf("Kind(%x) = %d", b, k)
			}
			if fbits.Neg(b) != neg {
				t.Errorf("Neg(%x) = %t", b, !neg)
			}
			has := c.kind < fbits.Infinite
			gotNeg, m, e, ok := fbits.Parts(b)
			if gotNeg != (neg && has) || m != c.m || e != c.e || ok != has {
				t.Errorf("Parts(%x) = %t, %x, %d, %t", b, gotNeg, m, e, ok)
			}
		}
	}
}

// kindOf is the kind of a double, by a way that does not use the program.
func kindOf(b uint64) int {
	f := math.Abs(math.Float64frombits(b))
	switch {
	case f != f:
		return 4
	case f > math.MaxFloat64:
		return 3
	case f >= 0x1p-1022:
		return 2
	case f > 0:
		return 1
	}
	return 0
}

// Promise 9.1: against the machine's own doubles.
func TestParts(t *testing.T) {
	for _, b := range doubles() {
		if k := fbits.Kind(b); k != kindOf(b) {
			t.Errorf("Kind(%x) = %d", b, k)
		}
		f := math.Float64frombits(b)
		if fbits.Neg(b) != math.Signbit(f) {
			t.Errorf("Neg(%x) = %t", b, !math.Signbit(f))
		}
		neg, m, e, ok := fbits.Parts(b)
		if kindOf(b) >= 3 {
			if neg || m != 0 || e != 0 || ok {
				t.Errorf("Parts(%x) = %t, %x, %d, %t", b, neg, m, e, ok)
			}
			continue
		}
		want := new(big.Rat).SetFloat64(math.Abs(f))
		if neg != math.Signbit(f) || !ok || value(m, e).Cmp(want) != 0 {
			t.Errorf("Parts(%x) = %t, %x, %d, %t", b, neg, m, e, ok)
		}
		if whole := kindOf(b) == 2; (m>>52 != 0) != whole || m>>53 != 0 || !whole && e != -1074 {
			t.Errorf("Parts(%x) has the significand %x and the exponent %d", b, m, e)
		}
	}
}

// wantMake calls Make with both signs; a result without ok is 0 (R2).
func wantMake(t *testing.T, m uint64, e int, want uint64, ok bool) {
	t.Helper()
	if b, got := fbits.Make(false, m, e); b != want || got != ok {
		t.Errorf("Make(false, %#x, %d) = %x, %t, want %x, %t", m, e, b, got, want, ok)
	}
	if ok {
		want |= sign
	}
	if b, got := fbits.Make(true, m, e); b != want || got != ok {
		t.Errorf("Make(true, %#x, %d) = %x, %t, want %x, %t", m, e, b, got, want, ok)
	}
}

// Promise 9.2, with results that are written out.
func TestMakeExamples(t *testing.T) {
	for _, c := range []struct {
		m    uint64
		e    int
		want uint64
		ok   bool
	}{
		{3, -1075, 0, false},
		{4, -1075, 2, true},
		{1, 0, 0x3ff0000000000000, true},
		{3, 0, 0x4008000000000000, true},
		{10, -1, 0x4014000000000000, true},
		{1, -1074, 1, true},
		{1, -1075, 0, false},
		{2, -1075, 1, true},
		{1, -1073, 2, true},
		{1, -1022, 0x0010000000000000, true},
		{1<<52 - 1, -1074, 0x000fffffffffffff, true},
		{1 << 52, -1074, 0x0010000000000000, true},
		{1<<53 - 1, -1074, 0x001fffffffffffff, true},
		{1<<53 - 1, -1075, 0, false},
		{1<<53 - 2, -1075, 0x000fffffffffffff, true},
		{1<<53 + 1, 0, 0, false},
		{1<<53 + 2, 0, 0x4340000000000001, true},
		{1<<53 - 1, 971, 0x7fefffffffffffff, true},
		{1<<53 - 2, 971, 0x7feffffffffffffe, true},
		{1 << 53, 971, 0, false},
		{1<<53 - 1, 972, 0, false},
		{1<<53 - 2, 972, 0, false},
		{(1<<53 - 1) << 11, 960, 0x7fefffffffffffff, true},
		{(1<<53 - 1) << 11, 961, 0, false},
		{(1<<53-1)<<11 + 1, 960, 0, false},
		{(1<<53-1)<<11 + 1<<10, 960, 0, false},
		{1<<64 - 1, 0, 0, false},
		{1<<64 - 1<<11, 0, 0x43efffffffffffff, true},
		{1<<64 - 1<<10, 0, 0, false},
		{1, 1023, 0x7fe0000000000000, true},
		{1, 1024, 0, false},
		{1 << 63, 960, 0x7fe0000000000000, true},
		{1 << 63, 961, 0, false},
		{1 << 63, -1137, 1, true},
		{1 << 63, -1138, 0, false},
		{3 << 62, -1136, 3, true},
		{3 << 62, -1137, 0, false},
		{1 << 63, -1139, 0, false},
		{1<<63 + 1<<52, -1126, 0x0000000000000801, true},
		{1, math.MaxInt, 0, false},
		{1, math.MinInt, 0, false},
		{1 << 63, math.MaxInt, 0, false},
		{1 << 63, math.MinInt, 0, false},
		{1 << 63, math.MaxInt - 1023, 0, false},
		{1<<64 - 1, math.MaxInt, 0, false},
		{1<<64 - 1, math.MinInt, 0, false},
		{2, 1 << 32, 0, false},
		{2, -1 << 32, 0, false},
		{1, 1<<32 - 1074, 0, false},
		{1, -1<<32 + 1, 0, false},
	} {
		wantMake(t, c.m, c.e, c.want, c.ok)
	}
}

// Promise 9.2: 0 times any power of 2 is 0.
func TestMakeZero(t *testing.T) {
	for _, e := range []int{math.MinInt, math.MinInt + 1, -1 << 32, -1138, -1075, -1074, -1, 0, 1, 971, 972, 1024, 1 << 32, math.MaxInt} {
		wantMake(t, 0, e, 0, true)
	}
}

// significands are 0, ones of one bit, of 53, of 54 and of 64 bits, with and without zeros at the low end, and random ones.
func significands() []uint64 {
	out := []uint64{0, 3, 5, 1<<53 - 1, 1<<53 + 1, 1<<54 - 1, 1<<54 - 2, 1<<63 + 1, 1<<64 - 1}
	r := rand.New(rand.NewSource(2))
	for k := range 64 {
		out = append(out, 1<<k, 1<<k|1, ^uint64(0)>>k, ^uint64(0)<<k, r.Uint64()>>k, r.Uint64()<<k)
	}
	for k := range 12 {
		out = append(out, (1<<53-1)<<k, (1<<52+1)<<k)
	}
	return out
}

// checkMake holds Make against the machine's double that is nearest, if it has that value.
func checkMake(t *testing.T, m uint64, e int) {
	t.Helper()
	v := value(m, e)
	f, _ := v.Float64()
	ok := !math.IsInf(f, 0) && new(big.Rat).SetFloat64(f).Cmp(v) == 0
	if !ok {
		f = 0
	}
	wantMake(t, m, e, math.Float64bits(f), ok)
}

// Promise 9.2: each significand at the exponents where doubles begin and end, and between.
func TestMake(t *testing.T) {
	var exps []int
	for d := -3; d <= 3; d++ {
		for _, e := range []int{-1138, -1127, -1085, -1075, -1064, -1022, -600, -52, 0, 11, 500, 960, 971, 1023} {
			exps = append(exps, e+d)
		}
	}
	for _, m := range significands() {
		for _, e := range exps {
			checkMake(t, m, e)
		}
	}
}

// Promise 9.2: one bit and 53 bits at each exponent there is, and past both ends.
func TestMakeAtEachExponent(t *testing.T) {
	for e := -1200; e <= 1100; e++ {
		checkMake(t, 1, e)
		checkMake(t, 1<<63, e)
		checkMake(t, 1<<53-1, e)
		checkMake(t, (1<<52+1)<<11, e)
	}
}

// Promise 9.2.
func TestNanAndInf(t *testing.T) {
	if b := fbits.Nan(); b != 0x7ff8000000000000 {
		t.Errorf("Nan() = %x", b)
	}
	if b := fbits.Inf(false); b != 0x7ff0000000000000 {
		t.Errorf("Inf(false) = %x", b)
	}
	if b := fbits.Inf(true); b != 0xfff0000000000000 {
		t.Errorf("Inf(true) = %x", b)
	}
}

// Promise 9.2: only doubles that are not a number become Nan, with a sign or without.
func TestCleanAndFlip(t *testing.T) {
	for _, b := range doubles() {
		clean, flip := b, b^sign
		if kindOf(b) == 4 {
			clean, flip = 0x7ff8000000000000, 0x7ff8000000000000
		}
		if got := fbits.Clean(b); got != clean {
			t.Errorf("Clean(%x) = %x", b, got)
		}
		if got := fbits.Flip(b); got != flip {
			t.Errorf("Flip(%x) = %x", b, got)
		}
	}
}

// Promise 9.2, with results that are written out.
func TestCleanAndFlipExamples(t *testing.T) {
	for _, c := range []struct{ b, clean, flip uint64 }{
		{0, 0, 0x8000000000000000},
		{0x8000000000000000, 0x8000000000000000, 0},
		{1, 1, 0x8000000000000001},
		{0xbff0000000000000, 0xbff0000000000000, 0x3ff0000000000000},
		{0x7ff0000000000000, 0x7ff0000000000000, 0xfff0000000000000},
		{0xfff0000000000000, 0xfff0000000000000, 0x7ff0000000000000},
		{0x7ff0000000000001, 0x7ff8000000000000, 0x7ff8000000000000},
		{0xfff0000000000001, 0x7ff8000000000000, 0x7ff8000000000000},
		{0xfff8000000000000, 0x7ff8000000000000, 0x7ff8000000000000},
		{0xffffffffffffffff, 0x7ff8000000000000, 0x7ff8000000000000},
	} {
		if fbits.Clean(c.b) != c.clean || fbits.Flip(c.b) != c.flip {
			t.Errorf("%x: %x, %x", c.b, fbits.Clean(c.b), fbits.Flip(c.b))
		}
	}
}

// Promise 9.3: from a double to its parts and back.
func TestMakeUndoesParts(t *testing.T) {
	for _, b := range doubles() {
		neg, m, e, ok := fbits.Parts(b)
		if !ok {
			continue
		}
		if got, ok := fbits.Make(neg, m, e); got != b || !ok {
			t.Errorf("Make(Parts(%x)) = %x, %t", b, got, ok)
		}
	}
}

// Promise 9.3: from a sign, a significand and an exponent to a double and back to the same value.
func TestPartsUndoMake(t *testing.T) {
	for _, m := range significands() {
		for e := -1140; e <= 1024; e += 7 {
			for _, neg := range []bool{false, true} {
				b, ok := fbits.Make(neg, m, e)
				if !ok {
					continue
				}
				gotNeg, gotM, gotE, ok := fbits.Parts(b)
				if gotNeg != neg || !ok || value(gotM, gotE).Cmp(value(m, e)) != 0 {
					t.Errorf("Parts(Make(%t, %#x, %d)) = %t, %#x, %d, %t", neg, m, e, gotNeg, gotM, gotE, ok)
				}
			}
		}
	}
}

// size is the value of a double without a sign by its parts; 2^1024 stands for the infinity, which is past all of them.
func size(b uint64) *big.Rat {
	if fbits.Kind(b) == fbits.Infinite {
		return twoTo(1024)
	}
	_, m, e, _ := fbits.Parts(b)
	return value(m, e)
}

// Promise 9.4: in the order of the words, the values increase.
func TestOrder(t *testing.T) {
	var words []uint64
	for _, b := range append(doubles(), fbits.Inf(false)) {
		if fbits.Kind(b) != fbits.None && !fbits.Neg(b) {
			words = append(words, b)
		}
	}
	slices.Sort(words)
	words = slices.Compact(words)
	for i := range len(words) - 1 {
		if size(words[i]).Cmp(size(words[i+1])) >= 0 {
			t.Errorf("%x is not below %x", words[i], words[i+1])
		}
	}
	if len(words) < 4000 || words[len(words)-1] != fbits.Inf(false) {
		t.Error(len(words))
	}
}

// Promise 9.4: of two doubles that Make returns, the greater value is the greater word.
func TestOrderOfMade(t *testing.T) {
	r := rand.New(rand.NewSource(3))
	for range 20000 {
		m1, m2 := r.Uint64()>>(11+r.Intn(53)), r.Uint64()>>(11+r.Intn(53))
		e1 := r.Intn(2040) - 1074
		e2 := min(max(e1+r.Intn(120)-60, -1074), 971)
		b1, ok1 := fbits.Make(false, m1, e1)
		b2, ok2 := fbits.Make(false, m2, e2)
		if ok1 && ok2 && cmp.Compare(b1, b2) != value(m1, e1).Cmp(value(m2, e2)) {
			t.Errorf("%#x * 2^%d is %x, %#x * 2^%d is %x", m1, e1, b1, m2, e2, b2)
		}
	}
}

// R1: any words and any ints.
func TestAnyArguments(t *testing.T) {
	r := rand.New(rand.NewSource(4))
	for range 20000 {
		b, m, e := r.Uint64(), r.Uint64()>>r.Intn(64), int(r.Uint64())>>r.Intn(64)
		fbits.Kind(b)
		fbits.Parts(b)
		if got, ok := fbits.Make(b&1 == 1, m, e); !ok && got != 0 {
			t.Errorf("Make(%t, %#x, %d) = %x, false", b&1 == 1, m, e, got)
		}
	}
}
