package gcd_test

import (
	"math/big"
	"math/rand"
	"slices"
	"testing"

	"gradine/gcd"
	"gradine/nat"
	"gradine/prod"
	"gradine/quot"
)

const top = 1<<64 - 1

// withSpare is a copy of a list with capacity behind it that a function could overwrite.
func withSpare(a []uint64) []uint64 {
	b := slices.Clone(a)
	for range 4 {
		b = append(b, 0x5ca1ab1e)
	}
	return b[:len(a)]
}

// plain are numbers of one word and of several words: powers of 2 and their neighbours, numbers that divide others, primes.
func plain() [][]uint64 {
	out := [][]uint64{{}, {1}, {2}, {3}, {5}, {6}, {10}, {12}, {18}, {1 << 32}, {1<<61 - 1}, {1 << 63}, {1<<63 - 1}, {top - 1}, {top},
		{0, 1}, {1, 1}, {top, 1}, {0, 12}, {12, 12}, {0, top}, {top, top}, {0, 1 << 63}, {top, 1<<63 - 1},
		{0, 0, 1}, {top, 0, 1}, {1, 0, 1 << 63}, {top, top, top}, {top - 1, top, top}, {0, 0, 0, 0, 1 << 40}}
	r := rand.New(rand.NewSource(1))
	for n := range 6 {
		out = append(out, random(r, n+1))
	}
	return out
}

// lists are the plain numbers and nil, each of them also with zero words at its end.
func lists() [][]uint64 {
	out := [][]uint64{nil}
	for _, a := range plain() {
		out = append(out, withSpare(a), withSpare(append(slices.Clone(a), 0)), withSpare(append(slices.Clone(a), 0, 0, 0)))
	}
	return out
}

func random(r *rand.Rand, n int) []uint64 {
	a := make([]uint64, n)
	for i := range a {
		a[i] = r.Uint64() >> r.Intn(64)
	}
	return a
}

// number is what a list says, by a way that does not use the program.
func number(a []uint64) *big.Int {
	words := make([]big.Word, len(a))
	for i, w := range a {
		words[i] = big.Word(w)
	}
	return new(big.Int).SetBits(words)
}

// list is the normalized list of a number.
func list(n *big.Int) []uint64 {
	var a []uint64
	for _, w := range n.Bits() {
		a = append(a, uint64(w))
	}
	return a
}

// divided is a quotient without remainder, and 0 for a division by 0.
func divided(a, b *big.Int) *big.Int {
	if b.Sign() == 0 {
		return new(big.Int)
	}
	return new(big.Int).Quo(a, b)
}

// check holds all four functions against math/big.
func check(t *testing.T, a, b []uint64) {
	t.Helper()
	g := new(big.Int).GCD(nil, nil, number(a), number(b))
	if got := gcd.Gcd(a, b); !slices.Equal(got, list(g)) {
		t.Errorf("Gcd(%v, %v) = %v, want %v", a, b, got, list(g))
	}
	lcm := divided(new(big.Int).Mul(number(a), number(b)), g)
	if got := gcd.Lcm(a, b); !slices.Equal(got, list(lcm)) {
		t.Errorf("Lcm(%v, %v) = %v, want %v", a, b, got, list(lcm))
	}
	x, y := gcd.Reduce(a, b)
	if !slices.Equal(x, list(divided(number(a), g))) || !slices.Equal(y, list(divided(number(b), g))) {
		t.Errorf("Reduce(%v, %v) = %v, %v", a, b, x, y)
	}
	if is := g.Cmp(big.NewInt(1)) == 0; gcd.Coprime(a, b) != is {
		t.Errorf("Coprime(%v, %v) = %t", a, b, !is)
	}
}

// Promise 5.1.
func TestAllPairs(t *testing.T) {
	for _, a := range lists() {
		for _, b := range lists() {
			check(t, a, b)
		}
	}
}

// Promise 5.1, with results that are written out.
func TestExamples(t *testing.T) {
	for _, c := range []struct{ a, b, gcd, lcm, x, y []uint64 }{
		{[]uint64{12}, []uint64{18}, []uint64{6}, []uint64{36}, []uint64{2}, []uint64{3}},
		{nil, []uint64{5}, []uint64{5}, nil, nil, []uint64{1}},
		{[]uint64{5}, nil, []uint64{5}, nil, []uint64{1}, nil},
		{[]uint64{0, 0}, []uint64{5, 7, 0}, []uint64{5, 7}, nil, nil, []uint64{1}},
		{[]uint64{5, 7, 0}, []uint64{0}, []uint64{5, 7}, nil, []uint64{1}, nil},
		{nil, []uint64{1}, []uint64{1}, nil, nil, []uint64{1}},
		{[]uint64{1}, nil, []uint64{1}, nil, []uint64{1}, nil},
		{[]uint64{1}, []uint64{1}, []uint64{1}, []uint64{1}, []uint64{1}, []uint64{1}},
		{[]uint64{1, 0}, []uint64{8, 9}, []uint64{1}, []uint64{8, 9}, []uint64{1}, []uint64{8, 9}},
		{[]uint64{7}, []uint64{7, 0}, []uint64{7}, []uint64{7}, []uint64{1}, []uint64{1}},
		{[]uint64{4}, []uint64{12}, []uint64{4}, []uint64{12}, []uint64{1}, []uint64{3}},
		{[]uint64{8}, []uint64{9}, []uint64{1}, []uint64{72}, []uint64{8}, []uint64{9}},
		{[]uint64{top}, []uint64{top - 1}, []uint64{1}, []uint64{2, top - 2}, []uint64{top}, []uint64{top - 1}},
		{[]uint64{0, 1}, []uint64{1 << 40}, []uint64{1 << 40}, []uint64{0, 1}, []uint64{1 << 24}, []uint64{1}},
		{[]uint64{0, 6}, []uint64{0, 4, 0}, []uint64{0, 2}, []uint64{0, 12}, []uint64{3}, []uint64{2}},
		{[]uint64{top, top}, []uint64{top}, []uint64{top}, []uint64{top, top}, []uint64{1, 1}, []uint64{1}},
	} {
		if g := gcd.Gcd(c.a, c.b); !slices.Equal(g, c.gcd) {
			t.Errorf("Gcd(%v, %v) = %v", c.a, c.b, g)
		}
		if m := gcd.Lcm(c.a, c.b); !slices.Equal(m, c.lcm) {
			t.Errorf("Lcm(%v, %v) = %v", c.a, c.b, m)
		}
		if x, y := gcd.Reduce(c.a, c.b); !slices.Equal(x, c.x) || !slices.Equal(y, c.y) {
			t.Errorf("Reduce(%v, %v) = %v, %v", c.a, c.b, x, y)
		}
		if is := slices.Equal(c.gcd, []uint64{1}); gcd.Coprime(c.a, c.b) != is {
			t.Errorf("Coprime(%v, %v) = %t", c.a, c.b, !is)
		}
	}
}

// Promise 5.1: two zeros have the Gcd 0, no reduced numbers, and are not coprime.
func TestTwoZeros(t *testing.T) {
	zeros := [][]uint64{nil, {}, {0}, {0, 0, 0}}
	for _, a := range zeros {
		for _, b := range zeros {
			x, y := gcd.Reduce(a, b)
			if len(gcd.Gcd(a, b)) != 0 || len(gcd.Lcm(a, b)) != 0 || len(x) != 0 || len(y) != 0 || gcd.Coprime(a, b) {
				t.Errorf("%v, %v: %v, %v, %v, %v", a, b, gcd.Gcd(a, b), gcd.Lcm(a, b), x, y)
			}
		}
	}
}

// Promise 5.1: all pairs of small numbers.
func TestSmallNumbers(t *testing.T) {
	for a := range uint64(60) {
		for b := range uint64(60) {
			check(t, []uint64{a}, []uint64{b})
		}
	}
}

// Promise 5.1: neighbours in Fibonacci's sequence take the most steps of any numbers of their length.
func TestNumbersOfManySteps(t *testing.T) {
	a, b := nat.Of(0), nat.Of(1)
	for range 700 {
		if !gcd.Coprime(a, b) || !gcd.Coprime(b, a) {
			t.Errorf("Coprime(%v, %v) = false", a, b)
		}
		a, b = b, nat.Add(a, b)
	}
	check(t, a, b)
	check(t, prod.Mul(a, b), prod.Mul(b, b))
}

// Promise 5.1: random numbers, with and without a common factor, in either order.
func TestRandomNumbers(t *testing.T) {
	r := rand.New(rand.NewSource(2))
	for range 2000 {
		a, b, f := random(r, r.Intn(8)), random(r, r.Intn(8)), random(r, r.Intn(4))
		check(t, a, b)
		check(t, prod.Mul(a, f), prod.Mul(b, f))
		check(t, prod.Mul(a, f), f)
		check(t, f, prod.Mul(a, f))
	}
}

// Promise 5.1: numbers of more bits than nat.Shl shifts by, and of lengths that differ much.
func TestLongNumbers(t *testing.T) {
	r := rand.New(rand.NewSource(3))
	long, half := random(r, 1030), random(r, 515)
	check(t, long, []uint64{12})
	check(t, []uint64{0, 12}, long)
	check(t, prod.Mul(long, half), half)
	check(t, append(make([]uint64, 1030), 1), append(make([]uint64, 1025), 6))
	for _, n := range []int{20, 45, 90} {
		a, b, f := random(r, n), random(r, n+3), random(r, n/2)
		check(t, prod.Mul(a, f), prod.Mul(b, f))
	}
}

// divides reports whether d divides a: 0 divides 0 alone.
func divides(d, a []uint64) bool {
	_, rest, ok := quot.Div(a, d)
	if !ok {
		return nat.Bits(a) == 0
	}
	return len(rest) == 0
}

// Promise 5.2: the divisors of two numbers, one by one.
func TestCommonDivisorsDivideTheGcd(t *testing.T) {
	for _, a := range plain() {
		for _, b := range plain() {
			g := gcd.Gcd(a, b)
			if !divides(g, a) || !divides(g, b) {
				t.Errorf("Gcd(%v, %v) = %v does not divide both", a, b, g)
			}
			for _, d := range plain() {
				if divides(d, a) && divides(d, b) && !divides(d, g) {
					t.Errorf("%v divides %v and %v, but not their Gcd %v", d, a, b, g)
				}
			}
		}
	}
	for a := range uint64(40) {
		for b := range uint64(40) {
			for d := range uint64(40) {
				x, y, z := nat.Of(a), nat.Of(b), nat.Of(d)
				if (divides(z, x) && divides(z, y)) != divides(z, gcd.Gcd(x, y)) {
					t.Errorf("%d is a divisor of %d and %d, or of their Gcd, but not both", d, a, b)
				}
			}
		}
	}
}

// Promise 5.2.
func TestGcdOfMultiples(t *testing.T) {
	for _, a := range plain() {
		for _, b := range plain() {
			g := gcd.Gcd(a, b)
			for _, f := range plain() {
				if got := gcd.Gcd(prod.Mul(a, f), prod.Mul(f, b)); !slices.Equal(got, prod.Mul(g, f)) {
					t.Errorf("Gcd of %v and %v, %v times: %v", a, b, f, got)
				}
			}
		}
	}
}

// Promise 5.3.
func TestGcdTimesLcmIsTheProduct(t *testing.T) {
	for _, a := range lists() {
		for _, b := range lists() {
			if got := prod.Mul(gcd.Gcd(a, b), gcd.Lcm(a, b)); !slices.Equal(got, prod.Mul(a, b)) {
				t.Errorf("Gcd times Lcm of %v and %v is %v", a, b, got)
			}
		}
	}
}

// Promise 5.3: what Reduce returns is coprime, and its multiples by the Gcd are the numbers.
func TestReducedNumbersAreCoprime(t *testing.T) {
	for _, a := range lists() {
		for _, b := range lists() {
			x, y := gcd.Reduce(a, b)
			if nat.Bits(a)+nat.Bits(b) > 0 && !gcd.Coprime(x, y) {
				t.Errorf("Reduce(%v, %v) = %v, %v", a, b, x, y)
			}
			g := gcd.Gcd(a, b)
			if nat.Cmp(prod.Mul(x, g), a) != 0 || nat.Cmp(prod.Mul(y, g), b) != 0 {
				t.Errorf("Reduce(%v, %v) = %v, %v with the Gcd %v", a, b, x, y, g)
			}
		}
	}
}

// call is a function of the package as one that returns two lists.
type call struct {
	name string
	do   func(a, b []uint64) ([]uint64, []uint64)
}

func calls() []call {
	return []call{
		{"Gcd", func(a, b []uint64) ([]uint64, []uint64) { return gcd.Gcd(a, b), nil }},
		{"Reduce", gcd.Reduce},
		{"Lcm", func(a, b []uint64) ([]uint64, []uint64) { return gcd.Lcm(a, b), nil }},
		{"Coprime", func(a, b []uint64) ([]uint64, []uint64) { gcd.Coprime(a, b); return nil, nil }},
	}
}

// R4 and promise 2.1: arguments keep all their words, those behind their end too; results are normalized and new memory, apart from each other.
func TestArgumentsAndResultsAreApart(t *testing.T) {
	for _, c := range calls() {
		for _, a := range lists() {
			for _, b := range lists() {
				wholeA, wholeB := slices.Clone(a[:cap(a)]), slices.Clone(b[:cap(b)])
				x, y := c.do(a, b)
				if !nat.Right(x) || !nat.Right(y) {
					t.Errorf("%s(%v, %v) = %v, %v", c.name, a, b, x, y)
				}
				wantX, wantY := slices.Clone(x), slices.Clone(y)
				overwrite(x[:cap(x)])
				if !slices.Equal(y, wantY) {
					t.Fatalf("%s: both results share memory", c.name)
				}
				overwrite(y[:cap(y)])
				if !slices.Equal(a[:cap(a)], wholeA) || !slices.Equal(b[:cap(b)], wholeB) {
					t.Fatalf("%s changed its arguments %v, %v", c.name, wholeA, wholeB)
				}
				checkNotRetained(t, c, [2][]uint64{wholeA[:len(a)], wholeB[:len(b)]}, [2][]uint64{wantX, wantY})
			}
		}
	}
}

func checkNotRetained(t *testing.T, c call, args, want [2][]uint64) {
	t.Helper()
	x, y := c.do(args[0], args[1])
	overwrite(args[0])
	overwrite(args[1])
	if !slices.Equal(x, want[0]) || !slices.Equal(y, want[1]) {
		t.Fatalf("%s: got %v, %v, want %v", c.name, x, y, want)
	}
}

func overwrite(a []uint64) {
	for i := range a {
		a[i] = ^a[i]
	}
}

// R4: one list may be both numbers.
func TestOneListTwice(t *testing.T) {
	for _, a := range lists() {
		check(t, a, a)
	}
}
