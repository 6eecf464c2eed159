package nat_test

import (
	"math"
	"math/big"
	"math/rand"
	"slices"
	"testing"

	"gradine/nat"
)

const top = 1<<64 - 1

// spare is what the capacity behind the lists of lists() is filled with.
const spare = 0x5ca1ab1e

// withSpare is a copy of a list with capacity behind it that a function could overwrite.
func withSpare(a []uint64) []uint64 {
	b := slices.Clone(a)
	for range 4 {
		b = append(b, spare)
	}
	return b[:len(a)]
}

// lists are numbers at the edges of words, each of them also with zero words at its end.
func lists() [][]uint64 {
	plain := [][]uint64{{}, {1}, {2}, {3}, {12}, {top - 1}, {top}, {1 << 63}, {0, 1}, {1, 1}, {top, 1}, {top, top},
		{0, 1 << 63}, {0, 0, 1}, {0, 0, 12}, {top, 0, 1}, {0, top}, {top, top, top}, {top - 1, top, top}, {0, 0, 0, 0, 1 << 40}}
	r := rand.New(rand.NewSource(1))
	for n := range 6 {
		var a []uint64
		for range n {
			a = append(a, r.Uint64()>>r.Intn(64))
		}
		plain = append(plain, append(a, r.Uint64()))
	}
	out := [][]uint64{nil}
	for _, a := range plain {
		out = append(out, withSpare(a), withSpare(append(slices.Clone(a), 0)), withSpare(append(slices.Clone(a), 0, 0, 0)))
	}
	return out
}

// number is what a list says, by a way that does not use package nat.
func number(a []uint64) *big.Int {
	n := new(big.Int)
	for _, w := range slices.Backward(a) {
		n.Lsh(n, 64).Add(n, new(big.Int).SetUint64(w))
	}
	return n
}

// list is the normalized list of a number.
func list(n *big.Int) []uint64 {
	var a []uint64
	mask := new(big.Int).SetUint64(top)
	for n.Sign() > 0 {
		a = append(a, new(big.Int).And(n, mask).Uint64())
		n = new(big.Int).Rsh(n, 64)
	}
	return a
}

func same(t *testing.T, what string, got []uint64, want *big.Int) {
	t.Helper()
	if !slices.Equal(got, list(want)) {
		t.Errorf("%s: got %v, want %v", what, got, list(want))
	}
}

// Promise 2.1.
func TestRight(t *testing.T) {
	for _, a := range [][]uint64{nil, {}, {1}, {top}, {0, 1}, {0, 0, 5}} {
		if !nat.Right(a) {
			t.Error(a)
		}
	}
	for _, a := range [][]uint64{{0}, {1, 0}, {0, 0}, {0, 1, 0}, {top, top, 0, 0}} {
		if nat.Right(a) {
			t.Error(a)
		}
	}
}

// Promise 2.1.
func TestTrim(t *testing.T) {
	for _, a := range lists() {
		same(t, "Trim", nat.Trim(a), number(a))
	}
	if a := nat.Trim([]uint64{0, 7, 0, 0}); !slices.Equal(a, []uint64{0, 7}) {
		t.Error(a)
	}
	if a := nat.Trim([]uint64{0, 0}); len(a) != 0 {
		t.Error(a)
	}
}

// Promise 2.1.
func TestOf(t *testing.T) {
	if a := nat.Of(0); len(a) != 0 {
		t.Error(a)
	}
	for _, x := range []uint64{1, 2, 1 << 32, 1 << 63, top} {
		if a := nat.Of(x); !slices.Equal(a, []uint64{x}) {
			t.Error(x, a)
		}
	}
}

// Promise 2.1.
func TestWord(t *testing.T) {
	for _, a := range lists() {
		n := number(a)
		want, fits := uint64(0), n.IsUint64()
		if fits {
			want = n.Uint64()
		}
		if x, ok := nat.Word(a); x != want || ok != fits {
			t.Errorf("Word(%v) = %d, %t", a, x, ok)
		}
	}
	if x, ok := nat.Word([]uint64{9, 0, 0}); x != 9 || !ok {
		t.Error(x, ok)
	}
	if x, ok := nat.Word([]uint64{9, 1}); x != 0 || ok {
		t.Error(x, ok)
	}
	if x, ok := nat.Word(nil); x != 0 || !ok {
		t.Error(x, ok)
	}
}

// Promise 2.1.
func TestCmp(t *testing.T) {
	for _, a := range lists() {
		for _, b := range lists() {
			if c := nat.Cmp(a, b); c != number(a).Cmp(number(b)) {
				t.Errorf("Cmp(%v, %v) = %d", a, b, c)
			}
		}
	}
	if c := nat.Cmp([]uint64{5, 0}, []uint64{5}); c != 0 {
		t.Error(c)
	}
	if c := nat.Cmp([]uint64{1, 2}, []uint64{2, 1}); c != 1 {
		t.Error(c)
	}
	if c := nat.Cmp([]uint64{0}, []uint64{0, 1}); c != -1 {
		t.Error(c)
	}
}

// Promise 2.1.
func TestBits(t *testing.T) {
	for _, a := range lists() {
		if n := nat.Bits(a); n != number(a).BitLen() {
			t.Errorf("Bits(%v) = %d", a, n)
		}
	}
	if n := nat.Bits([]uint64{0, 0}); n != 0 {
		t.Error(n)
	}
}

// Promise 2.1.
func TestBit(t *testing.T) {
	for _, a := range lists() {
		n := number(a)
		for i := range 64*len(a) + 130 {
			if nat.Bit(a, i) != (n.Bit(i) == 1) {
				t.Errorf("Bit(%v, %d) = %t", a, i, nat.Bit(a, i))
			}
		}
		for _, i := range []int{-1, -2, -63, -64, -65, math.MinInt, math.MinInt + 1, math.MaxInt, math.MaxInt - 1, math.MaxInt32, 1 << 40} {
			if nat.Bit(a, i) {
				t.Errorf("Bit(%v, %d)", a, i)
			}
		}
	}
}

// Promise 2.1.
func TestEven(t *testing.T) {
	for _, a := range lists() {
		if n := nat.Even(a); n != int(number(a).TrailingZeroBits()) {
			t.Errorf("Even(%v) = %d", a, n)
		}
	}
	for _, i := range []int{0, 1, 63, 64, 65, 127, 128, 300} {
		if n := nat.Even(nat.Shl([]uint64{5}, i)); n != i {
			t.Error(i, n)
		}
	}
	if n := nat.Even([]uint64{0, 0}); n != 0 {
		t.Error(n)
	}
}

// Promise 2.2.
func TestAdd(t *testing.T) {
	for _, a := range lists() {
		for _, b := range lists() {
			same(t, "Add", nat.Add(a, b), new(big.Int).Add(number(a), number(b)))
		}
	}
	if a := nat.Add([]uint64{top}, []uint64{1, 0}); !slices.Equal(a, []uint64{0, 1}) {
		t.Error(a)
	}
	if a := nat.Add([]uint64{top, top}, []uint64{1}); !slices.Equal(a, []uint64{0, 0, 1}) {
		t.Error(a)
	}
	if a := nat.Add(nil, []uint64{0, 0}); len(a) != 0 {
		t.Error(a)
	}
}

// Promise 2.2.
func TestSub(t *testing.T) {
	for _, a := range lists() {
		for _, b := range lists() {
			d, ok := nat.Sub(a, b)
			want := new(big.Int).Sub(number(a), number(b))
			if want.Sign() >= 0 {
				same(t, "Sub", d, want)
			}
			if ok != (want.Sign() >= 0) || !ok && len(d) != 0 {
				t.Errorf("Sub(%v, %v) = %v, %t", a, b, d, ok)
			}
		}
	}
	if d, ok := nat.Sub([]uint64{0, 0, 1}, []uint64{1, 0}); !ok || !slices.Equal(d, []uint64{top, top}) {
		t.Error(d, ok)
	}
	if d, ok := nat.Sub([]uint64{7, 7}, []uint64{7, 7, 0}); !ok || len(d) != 0 {
		t.Error(d, ok)
	}
	if d, ok := nat.Sub(nil, []uint64{1}); ok || len(d) != 0 {
		t.Error(d, ok)
	}
}

// shifts are amounts at the edges of words, besides those that are out of range.
func shifts() []int {
	return []int{0, 1, 2, 31, 32, 33, 62, 63, 64, 65, 127, 128, 129, 191, 192, 193, 320, 500, 5000}
}

// Promise 2.2.
func TestShl(t *testing.T) {
	for _, a := range lists() {
		for _, n := range append(shifts(), nat.Most-1, nat.Most) {
			same(t, "Shl", nat.Shl(a, n), new(big.Int).Lsh(number(a), uint(n)))
		}
		for _, n := range []int{-1, -64, -65, math.MinInt} {
			same(t, "Shl by a negative number", nat.Shl(a, n), number(a))
		}
		for _, n := range []int{nat.Most + 1, nat.Most + 64, math.MaxInt32, math.MaxInt - 1, math.MaxInt} {
			same(t, "Shl above Most", nat.Shl(a, n), new(big.Int).Lsh(number(a), 65536))
		}
	}
}

// Promise 2.2.
func TestMostIsAPowerOfTwo(t *testing.T) {
	if nat.Most != 65536 {
		t.Error(nat.Most)
	}
}

// Promise 2.2: unlike Shl, Shr knows no greatest amount.
func TestShr(t *testing.T) {
	for _, a := range lists() {
		for _, n := range shifts() {
			same(t, "Shr", nat.Shr(a, n), new(big.Int).Rsh(number(a), uint(n)))
		}
		for _, n := range []int{-1, -64, -65, math.MinInt} {
			same(t, "Shr by a negative number", nat.Shr(a, n), number(a))
		}
		for _, n := range []int{nat.Most, nat.Most + 1, math.MaxInt32, math.MaxInt - 1, math.MaxInt} {
			if r := nat.Shr(a, n); len(r) != 0 {
				t.Errorf("Shr(%v, %d) = %v", a, n, r)
			}
		}
	}
	if a := nat.Shr([]uint64{0, 1}, 1); !slices.Equal(a, []uint64{1 << 63}) {
		t.Error(a)
	}
	long := nat.Shl(nat.Shl([]uint64{3}, nat.Most), nat.Most)
	if a := nat.Shr(long, 2*nat.Most); !slices.Equal(a, []uint64{3}) {
		t.Error(a)
	}
}

// Promise 2.3.
func TestAdditionIsCommutativeAndAssociative(t *testing.T) {
	for _, a := range lists() {
		for _, b := range lists() {
			ab := nat.Add(a, b)
			if !slices.Equal(ab, nat.Add(b, a)) {
				t.Error(a, b)
			}
			for _, c := range lists()[:40] {
				if !slices.Equal(nat.Add(ab, c), nat.Add(a, nat.Add(b, c))) {
					t.Error(a, b, c)
				}
			}
		}
	}
}

// Promise 2.3.
func TestAddUndoesSub(t *testing.T) {
	for _, a := range lists() {
		for _, b := range lists() {
			if d, ok := nat.Sub(a, b); ok && nat.Cmp(nat.Add(d, b), a) != 0 {
				t.Error(a, b, d)
			}
		}
	}
}

// Promise 2.3.
func TestShrUndoesShl(t *testing.T) {
	for _, a := range lists() {
		for _, n := range append(shifts(), -1, nat.Most) {
			if b := nat.Shr(nat.Shl(a, n), n); !slices.Equal(b, nat.Trim(a)) {
				t.Error(a, n, b)
			}
		}
	}
}

// call is a function of the package as one that takes two lists.
type call struct {
	name string
	do   func(a, b []uint64) []uint64
}

func calls() []call {
	list := []call{
		{"Trim", func(a, b []uint64) []uint64 { return nat.Trim(a) }},
		{"Add", nat.Add},
		{"Sub", func(a, b []uint64) []uint64 { r, _ := nat.Sub(a, b); return r }},
		{"reading", func(a, b []uint64) []uint64 {
			nat.Right(a)
			nat.Word(a)
			nat.Cmp(a, b)
			nat.Bits(a)
			nat.Bit(a, len(a)*64-1)
			nat.Even(a)
			return nil
		}},
	}
	for _, n := range []int{math.MinInt, -1, 0, 1, 64, 100} {
		list = append(list,
			call{"Shl", func(a, b []uint64) []uint64 { return nat.Shl(a, n) }},
			call{"Shr", func(a, b []uint64) []uint64 { return nat.Shr(a, n) }})
	}
	return list
}

// R4 and promise 2.1: arguments keep all their words, those behind their end too; results are normalized and new memory.
func TestArgumentsAndResultsAreApart(t *testing.T) {
	for _, c := range calls() {
		for _, a := range lists() {
			for _, b := range lists() {
				wholeA, wholeB := slices.Clone(a[:cap(a)]), slices.Clone(b[:cap(b)])
				r := c.do(a, b)
				if !nat.Right(r) {
					t.Errorf("%s(%v, %v) = %v", c.name, a, b, r)
				}
				want := slices.Clone(r)
				overwrite(r[:cap(r)])
				if !slices.Equal(a[:cap(a)], wholeA) || !slices.Equal(b[:cap(b)], wholeB) {
					t.Fatalf("%s changed its arguments %v, %v", c.name, wholeA, wholeB)
				}
				checkNotRetained(t, c, wholeA[:len(a)], wholeB[:len(b)], want)
			}
		}
	}
}

func checkNotRetained(t *testing.T, c call, a, b, want []uint64) {
	t.Helper()
	r := c.do(a, b)
	overwrite(a)
	overwrite(b)
	if !slices.Equal(r, want) {
		t.Fatalf("%s: got %v, want %v", c.name, r, want)
	}
}

func overwrite(a []uint64) {
	for i := range a {
		a[i] = ^a[i]
	}
}

// R4: one list may be both arguments.
func TestOneListTwice(t *testing.T) {
	for _, a := range lists() {
		same(t, "Add", nat.Add(a, a), new(big.Int).Lsh(number(a), 1))
		if d, ok := nat.Sub(a, a); !ok || len(d) != 0 {
			t.Error(a, d, ok)
		}
		if c := nat.Cmp(a, a); c != 0 {
			t.Error(a, c)
		}
	}
}
