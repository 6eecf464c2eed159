package prod_test

import (
	"math"
	"math/big"
	"math/rand"
	"slices"
	"testing"

	"gradine/nat"
	"gradine/prod"
)

const top = 1<<64 - 1

// withSpare is a copy of a list with capacity behind it that a function could overwrite.
func withSpare(a []uint64) []uint64 {
	b := slices.Clone(a)
	for range 4 {
		b = append(b, 0x5ca1ab1e)
	}
	return b[:len(a)]
}

// lists are numbers at the edges of words, each of them also with zero words at its end.
func lists() [][]uint64 {
	plain := [][]uint64{{}, {1}, {2}, {3}, {top - 1}, {top}, {1 << 63}, {0, 1}, {1, 1}, {top, 1}, {top, top},
		{0, 1 << 63}, {0, 0, 1}, {top, 0, 1}, {0, top}, {top, top, top}, {top - 1, top, top}, {0, 0, 0, 0, 1 << 40}}
	r := rand.New(rand.NewSource(1))
	for n := range 6 {
		plain = append(plain, random(r, n+1))
	}
	out := [][]uint64{nil}
	for _, a := range plain {
		out = append(out, withSpare(a), withSpare(append(slices.Clone(a), 0)), withSpare(append(slices.Clone(a), 0, 0, 0)))
	}
	return out
}

func random(r *rand.Rand, n int) []uint64 {
	a := make([]uint64, n)
	for i := range a {
		a[i] = r.Uint64() >> r.Intn(64)
	}
	return a
}

// repeat is a list of n words x.
func repeat(x uint64, n int) []uint64 {
	return slices.Repeat([]uint64{x}, n)
}

// longOnes are lists of a length: of random words, of words that carry, of few words that are not 0, and of one half that is 0.
func longOnes(r *rand.Rand, n int) [][]uint64 {
	power := repeat(0, n)
	power[n-1] = 1 << 63
	lowHalf, highHalf := random(r, n), random(r, n)
	clear(lowHalf[n/2:])
	clear(highHalf[:n/2])
	ends := repeat(0, n)
	ends[0], ends[n-1] = top, top
	return [][]uint64{random(r, n), repeat(top, n), power, lowHalf, highHalf, ends}
}

// number is what a list says, by a way that does not use the program.
func number(a []uint64) *big.Int {
	words := make([]big.Word, len(a))
	for i, w := range a {
		words[i] = big.Word(w)
	}
	return new(big.Int).SetBits(words)
}

// list is the normalized list of a number.
func list(n *big.Int) []uint64 {
	var a []uint64
	for _, w := range n.Bits() {
		a = append(a, uint64(w))
	}
	return a
}

func same(t *testing.T, what string, got []uint64, want *big.Int) {
	t.Helper()
	if !slices.Equal(got, list(want)) {
		t.Errorf("%s: got %v, want %v", what, got, list(want))
	}
}

func times(a, b []uint64) *big.Int {
	return new(big.Int).Mul(number(a), number(b))
}

// Promise 3.1.
func TestMulOfShortNumbers(t *testing.T) {
	for _, a := range lists() {
		for _, b := range lists() {
			same(t, "Mul", prod.Mul(a, b), times(a, b))
		}
	}
	if a := prod.Mul([]uint64{top}, []uint64{top}); !slices.Equal(a, []uint64{1, top - 1}) {
		t.Error(a)
	}
	for _, zero := range [][]uint64{nil, {}, {0}, {0, 0}} {
		if a := prod.Mul(zero, []uint64{5, 6}); len(a) != 0 {
			t.Error(a)
		}
		if a := prod.Mul([]uint64{5, 6}, zero); len(a) != 0 {
			t.Error(a)
		}
	}
	if a := prod.Mul([]uint64{1, 0}, []uint64{5, 6, 0}); !slices.Equal(a, []uint64{5, 6}) {
		t.Error(a)
	}
}

// Promise 3.1: every length up to some that are split more than once, against itself and its neighbours.
func TestMulOfNumbersOfEqualLength(t *testing.T) {
	r := rand.New(rand.NewSource(2))
	for n := 1; n < 180; n++ {
		a := random(r, n)
		for _, m := range []int{n, n + 1, n + 2} {
			for _, b := range longOnes(r, m) {
				same(t, "Mul", prod.Mul(a, b), times(a, b))
				same(t, "Mul", prod.Mul(b, repeat(top, n)), times(b, repeat(top, n)))
			}
		}
	}
}

// Promise 3.1: 2000 words are more bits than nat.Shl shifts by.
func TestMulOfNumbersOfDifferentLengths(t *testing.T) {
	r := rand.New(rand.NewSource(3))
	lengths := []int{1, 2, 39, 40, 41, 79, 80, 81, 120, 161, 1023, 1024, 1025, 2000, 2500}
	for _, n := range lengths {
		for _, m := range lengths {
			a, b := random(r, n), random(r, m)
			same(t, "Mul", prod.Mul(a, b), times(a, b))
			same(t, "Mul", prod.Mul(repeat(top, n), repeat(top, m)), times(repeat(top, n), repeat(top, m)))
		}
	}
	for _, a := range longOnes(r, 333) {
		for _, b := range longOnes(r, 90) {
			same(t, "Mul", prod.Mul(a, b), times(a, b))
			same(t, "Mul", prod.Mul(b, a), times(a, b))
		}
	}
}

// Promise 3.1: zero words at the end make a number no longer.
func TestMulOfLongNumbersWithZeroWords(t *testing.T) {
	r := rand.New(rand.NewSource(4))
	for _, n := range []int{1, 30, 50, 100} {
		a, b := random(r, n), random(r, 60)
		longA, longB := append(slices.Clone(a), repeat(0, 100)...), append(slices.Clone(b), 0, 0)
		same(t, "Mul", prod.Mul(longA, longB), times(a, b))
		same(t, "Mul", prod.Mul(longB, longA), times(a, b))
	}
}

// Promise 3.1.
func TestWord(t *testing.T) {
	words := []uint64{0, 1, 2, 10, 1 << 32, 1 << 63, top - 1, top}
	for _, a := range append(lists(), repeat(top, 100)) {
		for _, m := range words {
			for _, c := range words {
				want := times(a, []uint64{m})
				same(t, "Word", prod.Word(a, m, c), want.Add(want, number([]uint64{c})))
			}
		}
	}
	if a := prod.Word(nil, 5, 7); !slices.Equal(a, []uint64{7}) {
		t.Error(a)
	}
	if a := prod.Word([]uint64{top, top}, top, top); !slices.Equal(a, []uint64{0, 0, top}) {
		t.Error(a)
	}
}

func power(a []uint64, n int64) *big.Int {
	return new(big.Int).Exp(number(a), big.NewInt(n), nil)
}

// Promise 3.1.
func TestPow(t *testing.T) {
	if prod.MaxPow != 64 {
		t.Error(prod.MaxPow)
	}
	for _, a := range lists() {
		for n := range 65 {
			same(t, "Pow", prod.Pow(a, n), power(a, int64(n)))
		}
		for _, n := range []int{0, -1, -2, -64, math.MinInt + 1, math.MinInt} {
			same(t, "Pow", prod.Pow(a, n), big.NewInt(1))
		}
		for _, n := range []int{65, 66, 127, 128, 192, math.MaxInt32, 1 << 40, math.MaxInt - 1, math.MaxInt} {
			same(t, "Pow", prod.Pow(a, n), power(a, 64))
		}
	}
	if a := prod.Pow([]uint64{3}, 4); !slices.Equal(a, []uint64{81}) {
		t.Error(a)
	}
	if a := prod.Pow([]uint64{0, 0}, 0); !slices.Equal(a, []uint64{1}) {
		t.Error(a)
	}
	if a := prod.Pow([]uint64{0, 0}, 1); len(a) != 0 {
		t.Error(a)
	}
}

// some are numbers of which triples are taken: short ones, and long ones of several lengths.
func some() [][]uint64 {
	r := rand.New(rand.NewSource(5))
	out := slices.Clone(lists()[:24])
	for _, n := range []int{38, 45, 81, 130, 200} {
		out = append(out, random(r, n), repeat(top, n))
	}
	return out
}

// Promise 3.2.
func TestLawsOfMultiplication(t *testing.T) {
	for _, a := range some() {
		for _, b := range some() {
			ab := prod.Mul(a, b)
			if !slices.Equal(ab, prod.Mul(b, a)) {
				t.Errorf("not commutative: %v, %v", a, b)
			}
			for _, c := range some() {
				if !slices.Equal(prod.Mul(ab, c), prod.Mul(a, prod.Mul(b, c))) {
					t.Errorf("not associative: %v, %v, %v", a, b, c)
				}
				if !slices.Equal(prod.Mul(a, nat.Add(b, c)), nat.Add(ab, prod.Mul(a, c))) {
					t.Errorf("not distributive: %v, %v, %v", a, b, c)
				}
			}
		}
	}
}

// Promise 3.2.
func TestBitsOfAProduct(t *testing.T) {
	for _, a := range some() {
		for _, b := range some() {
			n, most := nat.Bits(prod.Mul(a, b)), nat.Bits(a)+nat.Bits(b)
			if nat.Bits(a) == 0 || nat.Bits(b) == 0 {
				most = 0
			}
			if n > most || n < most-1 {
				t.Errorf("%d bits: %v, %v", n, a, b)
			}
		}
	}
}

// Promise 3.2.
func TestExponentsAreAdded(t *testing.T) {
	for _, a := range lists()[:46] {
		for _, m := range []int{0, 1, 2, 3, 7, 16, 21, 32} {
			for n := range 33 {
				if !slices.Equal(prod.Mul(prod.Pow(a, m), prod.Pow(a, n)), prod.Pow(a, m+n)) {
					t.Errorf("%v to the powers %d and %d", a, m, n)
				}
			}
		}
	}
}

// call is a function of the package as one that takes two lists.
type call struct {
	name string
	do   func(a, b []uint64) []uint64
}

func calls() []call {
	list := []call{
		{"Mul", prod.Mul},
		{"Word by 0", func(a, b []uint64) []uint64 { return prod.Word(a, 0, 3) }},
		{"Word by 1", func(a, b []uint64) []uint64 { return prod.Word(a, 1, 0) }},
		{"Word", func(a, b []uint64) []uint64 { return prod.Word(a, top, top) }},
	}
	for _, n := range []int{math.MinInt, 0, 1, 2, 3} {
		list = append(list, call{"Pow", func(a, b []uint64) []uint64 { return prod.Pow(a, n) }})
	}
	return list
}

// R4 and promise 2.1: arguments keep all their words, those behind their end too; results are normalized and new memory.
func TestArgumentsAndResultsAreApart(t *testing.T) {
	args := lists()
	for _, n := range []int{39, 40, 85, 200} {
		args = append(args, withSpare(repeat(top, n)), withSpare(append(repeat(3, n), 0)))
	}
	for _, c := range calls() {
		for _, a := range args {
			for _, b := range args {
				wholeA, wholeB := slices.Clone(a[:cap(a)]), slices.Clone(b[:cap(b)])
				r := c.do(a, b)
				if !nat.Right(r) {
					t.Errorf("%s(%v, %v) = %v", c.name, a, b, r)
				}
				want := slices.Clone(r)
				overwrite(r[:cap(r)])
				if !slices.Equal(a[:cap(a)], wholeA) || !slices.Equal(b[:cap(b)], wholeB) {
					t.Fatalf("%s changed its arguments %v, %v", c.name, wholeA, wholeB)
				}
				checkNotRetained(t, c, wholeA[:len(a)], wholeB[:len(b)], want)
			}
		}
	}
}

func checkNotRetained(t *testing.T, c call, a, b, want []uint64) {
	t.Helper()
	r := c.do(a, b)
	overwrite(a)
	overwrite(b)
	if !slices.Equal(r, want) {
		t.Fatalf("%s: got %v, want %v", c.name, r, want)
	}
}

func overwrite(a []uint64) {
	for i := range a {
		a[i] = ^a[i]
	}
}

// R4: one list may be both factors.
func TestOneListTwice(t *testing.T) {
	for _, a := range some() {
		same(t, "Mul", prod.Mul(a, a), times(a, a))
	}
}
