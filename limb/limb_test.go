package limb_test

import (
	"math/big"
	"math/rand"
	"testing"

	"gradine/limb"
)

const top = 1<<64 - 1

// words are edges at which carries, halves and highest bits change, and some others between them.
func words() []uint64 {
	list := []uint64{0, 1, 2, 3, 5, 10, 1<<31 - 1, 1 << 31, 1<<32 - 1, 1 << 32, 1<<32 + 1, 1<<33 - 1,
		1<<63 - 1, 1 << 63, 1<<63 + 1, top - 1<<32, top - 1, top, 0xffffffff00000000, 0x00000000ffffffff, 0x8000000080000000}
	r := rand.New(rand.NewSource(1))
	for range 12 {
		list = append(list, r.Uint64(), r.Uint64()>>r.Intn(64))
	}
	return list
}

func number(x uint64) *big.Int { return new(big.Int).SetUint64(x) }

// pair is hi * 2^64 + lo.
func pair(hi, lo uint64) *big.Int {
	n := number(hi)
	return n.Lsh(n, 64).Add(n, number(lo))
}

func sum(list ...uint64) *big.Int {
	n := new(big.Int)
	for _, x := range list {
		n.Add(n, number(x))
	}
	return n
}

// Promise 1.1.
func TestAddIsTheSum(t *testing.T) {
	for _, a := range words() {
		for _, b := range words() {
			for _, c := range words() {
				low, high := limb.Add(a, b, c)
				if pair(high, low).Cmp(sum(a, b, c)) != 0 {
					t.Fatalf("Add(%d, %d, %d) = %d, %d", a, b, c, low, high)
				}
			}
		}
	}
}

// Promise 1.1.
func TestAddCarries(t *testing.T) {
	for _, c := range []struct{ a, b, c, low, high uint64 }{
		{0, 0, 0, 0, 0},
		{3, 4, 5, 12, 0},
		{top, 0, 0, top, 0},
		{top, 1, 0, 0, 1},
		{0, top, 1, 0, 1},
		{top, 0, 1, 0, 1},
		{top, top, 1, top, 1},
		{top, top, 2, 0, 2},
		{top, top, top, top - 2, 2},
		{1 << 63, 1 << 63, top, top, 1},
	} {
		if low, high := limb.Add(c.a, c.b, c.c); low != c.low || high != c.high {
			t.Errorf("Add(%d, %d, %d) = %d, %d", c.a, c.b, c.c, low, high)
		}
	}
}

// Promise 1.1: what is returned is a - b - c, plus 2^64 as often as needed and no oftener.
func TestSubIsTheDifference(t *testing.T) {
	for _, a := range words() {
		for _, b := range words() {
			for _, c := range words() {
				low, borrow := limb.Sub(a, b, c)
				want := pair(borrow, a)
				want.Sub(want, sum(b, c))
				if borrow > 2 || want.Cmp(number(low)) != 0 {
					t.Fatalf("Sub(%d, %d, %d) = %d, %d", a, b, c, low, borrow)
				}
			}
		}
	}
}

// Promise 1.1.
func TestSubBorrows(t *testing.T) {
	for _, c := range []struct{ a, b, c, low, borrow uint64 }{
		{0, 0, 0, 0, 0},
		{12, 4, 5, 3, 0},
		{9, 4, 5, 0, 0},
		{0, 1, 0, top, 1},
		{0, 0, 1, top, 1},
		{0, 1, 1, top - 1, 1},
		{5, 5, 1, top, 1},
		{0, top, 1, 0, 1},
		{0, top, 2, top, 2},
		{0, top, top, 2, 2},
		{top, top, top, 1, 1},
	} {
		if low, borrow := limb.Sub(c.a, c.b, c.c); low != c.low || borrow != c.borrow {
			t.Errorf("Sub(%d, %d, %d) = %d, %d", c.a, c.b, c.c, low, borrow)
		}
	}
}

// Promise 1.1.
func TestMulIsTheProduct(t *testing.T) {
	if high, low := limb.Mul(1<<32, 1<<32); high != 1 || low != 0 {
		t.Error(high, low)
	}
	if high, low := limb.Mul(top, top); high != top-1 || low != 1 {
		t.Error(high, low)
	}
	for _, a := range words() {
		for _, b := range words() {
			high, low := limb.Mul(a, b)
			want := number(a)
			want.Mul(want, number(b))
			if pair(high, low).Cmp(want) != 0 {
				t.Errorf("Mul(%d, %d) = %d, %d", a, b, high, low)
			}
		}
	}
}

// Promise 1.1.
func TestLenIsTheNumberOfBits(t *testing.T) {
	if n := limb.Len(0); n != 0 {
		t.Error(n)
	}
	for i := range 64 {
		least, most := uint64(1)<<i, uint64(top)>>(63-i)
		if limb.Len(least) != i+1 || limb.Len(most) != i+1 {
			t.Errorf("Len(%d) = %d, Len(%d) = %d", least, limb.Len(least), most, limb.Len(most))
		}
	}
	for _, x := range words() {
		if n := limb.Len(x); n != number(x).BitLen() {
			t.Errorf("Len(%d) = %d", x, n)
		}
	}
}

// divisors are those of each bit length, besides the words.
func divisors() []uint64 {
	list := words()
	for i := range 64 {
		list = append(list, 1<<i, top>>i)
	}
	return list
}

// Promises 1.2 and 1.3.
func TestDivIsTheQuotientAndRemainder(t *testing.T) {
	for _, d := range divisors() {
		for _, hi := range append(words(), d-1, d-2, d/2) {
			for _, lo := range append(words(), d-1, d) {
				if hi < d {
					checkQuotient(t, hi, lo, d)
				} else if q, r, ok := limb.Div(hi, lo, d); q != 0 || r != 0 || ok {
					t.Fatalf("Div(%d, %d, %d) = %d, %d, %t", hi, lo, d, q, r, ok)
				}
			}
		}
	}
}

func checkQuotient(t *testing.T, hi, lo, d uint64) {
	t.Helper()
	q, r, ok := limb.Div(hi, lo, d)
	product := number(q)
	product.Mul(product, number(d)).Add(product, number(r))
	if !ok || r >= d || product.Cmp(pair(hi, lo)) != 0 {
		t.Fatalf("Div(%d, %d, %d) = %d, %d, %t", hi, lo, d, q, r, ok)
	}
}

// Promise 1.2: numbers for which the first estimate of a half is too great, once or twice.
func TestDivCorrectsItsEstimates(t *testing.T) {
	r := rand.New(rand.NewSource(2))
	for range 100000 {
		d := 1<<63 | r.Uint64()>>r.Intn(64) | uint64(r.Uint32())
		checkQuotient(t, d-1-r.Uint64()>>(1+r.Intn(63))%d, r.Uint64(), d)
	}
}

// Promise 1.2.
func TestDivRefuses(t *testing.T) {
	for _, c := range []struct{ hi, lo, d uint64 }{
		{0, 0, 0}, {0, 7, 0}, {top, top, 0}, {1, 0, 1}, {2, 0, 2}, {3, 5, 2}, {top, 0, top}, {top, top, 1 << 63},
	} {
		if q, r, ok := limb.Div(c.hi, c.lo, c.d); q != 0 || r != 0 || ok {
			t.Errorf("Div(%d, %d, %d) = %d, %d, %t", c.hi, c.lo, c.d, q, r, ok)
		}
	}
}

// Promise 1.2.
func TestDivExamples(t *testing.T) {
	for _, c := range []struct{ hi, lo, d, q, r uint64 }{
		{1, 0, 2, 1 << 63, 0},
		{0, 0, 1, 0, 0},
		{0, top, 1, top, 0},
		{0, 17, 5, 3, 2},
		{0, 4, 5, 0, 4},
		{top - 1, top, top, top, top - 1},
		{top - 1, 1, top, top, 0},
	} {
		if q, r, ok := limb.Div(c.hi, c.lo, c.d); q != c.q || r != c.r || !ok {
			t.Errorf("Div(%d, %d, %d) = %d, %d, %t", c.hi, c.lo, c.d, q, r, ok)
		}
	}
}

// Promise 1.3.
func TestSubUndoesAdd(t *testing.T) {
	for _, a := range words() {
		for _, b := range words() {
			for _, c := range words() {
				low, high := limb.Add(a, b, c)
				if back, borrow := limb.Sub(low, b, c); back != a || borrow != high {
					t.Fatalf("Sub(%d, %d, %d) = %d, %d", low, b, c, back, borrow)
				}
			}
		}
	}
}

// Promise 1.3: quotient and remainder rebuild the dividend by limb's own functions.
func TestMulAndAddUndoDiv(t *testing.T) {
	for _, d := range divisors() {
		for _, hi := range words() {
			for _, lo := range words() {
				q, r, ok := limb.Div(hi, lo, d)
				if !ok {
					continue
				}
				high, low := limb.Mul(q, d)
				low, carry := limb.Add(low, r, 0)
				if high+carry != hi || low != lo || r >= d {
					t.Fatalf("Div(%d, %d, %d) = %d, %d", hi, lo, d, q, r)
				}
			}
		}
	}
}
