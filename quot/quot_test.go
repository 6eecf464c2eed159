package quot_test

import (
	"math/big"
	"math/rand"
	"slices"
	"testing"

	"gradine/nat"
	"gradine/prod"
	"gradine/quot"
)

const top = 1<<64 - 1

// withSpare is a copy of a list with capacity behind it that a function could overwrite.
func withSpare(a []uint64) []uint64 {
	b := slices.Clone(a)
	for range 4 {
		b = append(b, 0x5ca1ab1e)
	}
	return b[:len(a)]
}

// lists are numbers at the edges of words, each of them also with zero words at its end.
func lists() [][]uint64 {
	plain := [][]uint64{{}, {1}, {2}, {3}, {10}, {99}, {top - 1}, {top}, {1 << 63}, {1<<63 - 1}, {0, 1}, {1, 1}, {top, 1}, {top, top},
		{0, 1 << 63}, {top, 1<<63 - 1}, {0, 0, 1}, {top, 0, 1}, {0, top}, {top, top, top}, {top - 1, top, top}, {0, 0, 1 << 63},
		{1, 0, 1 << 63}, {top, 0, 1 << 63}, {0, 0, 0, 0, 1 << 40}}
	r := rand.New(rand.NewSource(1))
	for n := range 6 {
		plain = append(plain, random(r, n+1))
	}
	out := [][]uint64{nil}
	for _, a := range plain {
		out = append(out, withSpare(a), withSpare(append(slices.Clone(a), 0)), withSpare(append(slices.Clone(a), 0, 0, 0)))
	}
	return out
}

func random(r *rand.Rand, n int) []uint64 {
	a := make([]uint64, n)
	for i := range a {
		a[i] = r.Uint64() >> r.Intn(64)
	}
	return a
}

// number is what a list says, by a way that does not use the program.
func number(a []uint64) *big.Int {
	words := make([]big.Word, len(a))
	for i, w := range a {
		words[i] = big.Word(w)
	}
	return new(big.Int).SetBits(words)
}

// list is the normalized list of a number.
func list(n *big.Int) []uint64 {
	var a []uint64
	for _, w := range n.Bits() {
		a = append(a, uint64(w))
	}
	return a
}

// checkDiv holds a quotient and a remainder against those of math/big.
func checkDiv(t *testing.T, a, b []uint64) {
	t.Helper()
	q, r, ok := quot.Div(a, b)
	if number(b).Sign() == 0 {
		if len(q) != 0 || len(r) != 0 || ok {
			t.Errorf("Div(%v, %v) = %v, %v, %t", a, b, q, r, ok)
		}
		return
	}
	wantQ, wantR := new(big.Int).QuoRem(number(a), number(b), new(big.Int))
	if !ok || !slices.Equal(q, list(wantQ)) || !slices.Equal(r, list(wantR)) {
		t.Errorf("Div(%v, %v) = %v, %v, %t", a, b, q, r, ok)
	}
}

// Promises 4.1 and 4.2.
func TestDiv(t *testing.T) {
	for _, a := range lists() {
		for _, b := range lists() {
			checkDiv(t, a, b)
			checkDiv(t, prod.Mul(a, b), b)
			checkDiv(t, nat.Add(prod.Mul(a, b), a), b)
			if less, ok := nat.Sub(prod.Mul(a, b), nat.Of(1)); ok {
				checkDiv(t, less, b)
			}
		}
	}
}

// Promise 4.1.
func TestDivExamples(t *testing.T) {
	for _, c := range []struct{ a, b, q, r []uint64 }{
		{[]uint64{0, 0, 1}, []uint64{1, 1}, []uint64{top}, []uint64{1}},
		{nil, []uint64{7}, nil, nil},
		{[]uint64{0, 0}, []uint64{0, 7}, nil, nil},
		{[]uint64{17}, []uint64{5}, []uint64{3}, []uint64{2}},
		{[]uint64{17, 9, 0}, []uint64{1, 0, 0}, []uint64{17, 9}, nil},
		{[]uint64{5}, []uint64{17}, nil, []uint64{5}},
		{[]uint64{5, 5, 0}, []uint64{5, 5}, []uint64{1}, nil},
		{[]uint64{4, 5}, []uint64{5, 5, 0}, nil, []uint64{4, 5}},
		{[]uint64{3, 0, 1}, []uint64{0, 0, 1}, []uint64{1}, []uint64{3}},
	} {
		if q, r, ok := quot.Div(c.a, c.b); !ok || !slices.Equal(q, c.q) || !slices.Equal(r, c.r) {
			t.Errorf("Div(%v, %v) = %v, %v, %t", c.a, c.b, q, r, ok)
		}
	}
}

// Promise 4.1: nothing divides by 0.
func TestDivByZero(t *testing.T) {
	for _, zero := range [][]uint64{nil, {}, {0}, {0, 0, 0}} {
		for _, a := range lists() {
			if q, r, ok := quot.Div(a, zero); len(q) != 0 || len(r) != 0 || ok {
				t.Errorf("Div(%v, %v) = %v, %v, %t", a, zero, q, r, ok)
			}
		}
	}
	for _, a := range lists() {
		if q, r, ok := quot.Word(a, 0); len(q) != 0 || r != 0 || ok {
			t.Errorf("Word(%v, 0) = %v, %d, %t", a, q, r, ok)
		}
	}
}

// Promise 4.1: words at which an estimate from the highest words is too great, once or twice, or no single word.
func TestDivCorrectsItsEstimates(t *testing.T) {
	edges := []uint64{0, 1, 2, 1<<32 - 1, 1 << 32, 1<<63 - 1, 1 << 63, 1<<63 + 1, top - 1, top}
	for _, b1 := range edges[1:] {
		for _, b0 := range edges {
			for _, a3 := range edges {
				for _, a2 := range edges {
					for _, a1 := range edges {
						checkDiv(t, []uint64{b0, a1, a2, a3}, []uint64{b0, b1})
						checkDiv(t, []uint64{a3, a1, a2, b1}, []uint64{top, b0, b1})
					}
				}
			}
		}
	}
	checkDiv(t, []uint64{0, 0, 1 << 63, 1<<63 - 1}, []uint64{top, 0, 1 << 63})
	checkDiv(t, []uint64{0, 0, 0, 1 << 63}, []uint64{top, top, 1 << 63})
	checkDiv(t, []uint64{0, top - 1, 1 << 63}, []uint64{top, 1 << 63})
}

// Promise 4.1: 2000 words are more bits than nat.Shl shifts by.
func TestDivOfLongNumbers(t *testing.T) {
	r := rand.New(rand.NewSource(2))
	for range 3000 {
		checkDiv(t, random(r, r.Intn(30)), random(r, r.Intn(20)))
	}
	for _, n := range []int{1, 2, 3, 50, 1023, 1999, 2000, 2001} {
		b := random(r, n)
		b[n-1] |= 1
		checkDiv(t, random(r, 2000), b)
		checkDiv(t, slices.Repeat([]uint64{top}, 2000), b)
		checkDiv(t, slices.Repeat([]uint64{top}, 2000), slices.Repeat([]uint64{top}, n))
	}
}

// Promise 4.1.
func TestWord(t *testing.T) {
	r := rand.New(rand.NewSource(3))
	for _, a := range append(lists(), random(r, 100)) {
		for _, d := range []uint64{1, 2, 3, 10, 1<<32 - 1, 1 << 32, 1<<63 - 1, 1 << 63, top - 1, top, r.Uint64()} {
			wantQ, wantR := new(big.Int).QuoRem(number(a), number([]uint64{d}), new(big.Int))
			if q, r, ok := quot.Word(a, d); !ok || !slices.Equal(q, list(wantQ)) || r != wantR.Uint64() {
				t.Errorf("Word(%v, %d) = %v, %d, %t", a, d, q, r, ok)
			}
		}
	}
	if q, r, ok := quot.Word([]uint64{1, 1, 0}, 2); !ok || r != 1 || !slices.Equal(q, []uint64{1 << 63}) {
		t.Error(q, r, ok)
	}
}

// Promise 4.2, by the program's own functions.
func TestQuotientAndRemainderRebuild(t *testing.T) {
	for _, a := range lists() {
		for _, b := range lists() {
			q, r, ok := quot.Div(a, b)
			if ok && (nat.Cmp(nat.Add(prod.Mul(q, b), r), a) != 0 || nat.Cmp(r, b) >= 0) {
				t.Errorf("Div(%v, %v) = %v, %v", a, b, q, r)
			}
			if d, short := nat.Word(b); short && ok {
				q, r, ok := quot.Word(a, d)
				if !ok || r >= d || nat.Cmp(prod.Word(q, d, r), a) != 0 {
					t.Errorf("Word(%v, %d) = %v, %d, %t", a, d, q, r, ok)
				}
			}
		}
	}
}

// roots are numbers of which squares and their neighbours are taken.
func roots() [][]uint64 {
	r := rand.New(rand.NewSource(4))
	out := lists()
	for n := range uint64(300) {
		out = append(out, []uint64{n})
	}
	for i := range 130 {
		out = append(out, nat.Shl([]uint64{1}, i), list(new(big.Int).Sub(number(nat.Shl([]uint64{1}, i)), big.NewInt(1))))
	}
	for _, n := range []int{10, 31, 45, 80} {
		out = append(out, random(r, n), slices.Repeat([]uint64{top}, n))
	}
	return out
}

func checkRoot(t *testing.T, a []uint64) {
	t.Helper()
	want := new(big.Int).Sqrt(number(a))
	if s := quot.Root(a); !slices.Equal(s, list(want)) {
		t.Errorf("Root(%v) = %v", a, s)
	}
	if is := want.Mul(want, want).Cmp(number(a)) == 0; quot.Square(a) != is {
		t.Errorf("Square(%v) = %t", a, !is)
	}
}

// Promises 4.1 and 4.3.
func TestRootAndSquare(t *testing.T) {
	for _, a := range roots() {
		checkRoot(t, a)
		s := prod.Mul(a, a)
		if !quot.Square(s) || !slices.Equal(quot.Root(s), nat.Trim(a)) {
			t.Errorf("%v is not the root of its square", a)
		}
		checkRoot(t, nat.Add(s, nat.Of(1)))
		checkRoot(t, append(nat.Add(s, a), 0))
		checkRoot(t, nat.Add(nat.Add(s, a), a))
		if less, ok := nat.Sub(s, nat.Of(1)); ok {
			checkRoot(t, less)
		}
	}
}

// Promise 4.1: roots with more bits than nat.Shl shifts by.
func TestRootOfLongNumbers(t *testing.T) {
	r := rand.New(rand.NewSource(5))
	checkRoot(t, append(make([]uint64, 2060), 1))
	checkRoot(t, random(r, 2060))
	for _, a := range [][]uint64{random(r, 1030), slices.Repeat([]uint64{top}, 1025)} {
		if s := prod.Mul(a, a); !slices.Equal(quot.Root(s), nat.Trim(a)) {
			t.Errorf("%v is not the root of its square", a)
		}
	}
}

// Promise 4.1.
func TestRootExamples(t *testing.T) {
	for _, c := range []struct {
		a, root []uint64
		square  bool
	}{
		{nil, nil, true},
		{[]uint64{0, 0}, nil, true},
		{[]uint64{1}, []uint64{1}, true},
		{[]uint64{2}, []uint64{1}, false},
		{[]uint64{3}, []uint64{1}, false},
		{[]uint64{4, 0}, []uint64{2}, true},
		{[]uint64{99}, []uint64{9}, false},
		{[]uint64{100}, []uint64{10}, true},
		{[]uint64{top}, []uint64{1<<32 - 1}, false},
		{[]uint64{0, 1}, []uint64{1 << 32}, true},
		{[]uint64{1, top - 1}, []uint64{top}, true},
		{[]uint64{0, top - 1}, []uint64{top - 1}, false},
		{[]uint64{0, 0, 1}, []uint64{0, 1}, true},
	} {
		if s := quot.Root(c.a); !slices.Equal(s, c.root) || quot.Square(c.a) != c.square {
			t.Errorf("Root(%v) = %v, Square: %t", c.a, s, quot.Square(c.a))
		}
	}
}

// Promise 4.3, by the program's own functions.
func TestSquareOfTheRootAndOfTheNextNumber(t *testing.T) {
	for _, a := range roots() {
		s := quot.Root(a)
		next := nat.Add(s, nat.Of(1))
		if nat.Cmp(prod.Mul(s, s), a) > 0 || nat.Cmp(prod.Mul(next, next), a) <= 0 {
			t.Errorf("Root(%v) = %v", a, s)
		}
	}
}

// call is a function of the package as one that takes two lists and returns two.
type call struct {
	name string
	do   func(a, b []uint64) ([]uint64, []uint64)
}

func calls() []call {
	list := []call{
		{"Div", func(a, b []uint64) ([]uint64, []uint64) { q, r, _ := quot.Div(a, b); return q, r }},
		{"Root", func(a, b []uint64) ([]uint64, []uint64) { quot.Square(a); return quot.Root(a), nil }},
	}
	for _, d := range []uint64{0, 1, 7, top} {
		list = append(list, call{"Word", func(a, b []uint64) ([]uint64, []uint64) { q, _, _ := quot.Word(a, d); return q, nil }})
	}
	return list
}

// R4 and promise 2.1: arguments keep all their words, those behind their end too; results are normalized and new memory, apart from each other.
func TestArgumentsAndResultsAreApart(t *testing.T) {
	for _, c := range calls() {
		for _, a := range lists() {
			for _, b := range lists() {
				wholeA, wholeB := slices.Clone(a[:cap(a)]), slices.Clone(b[:cap(b)])
				q, r := c.do(a, b)
				if !nat.Right(q) || !nat.Right(r) {
					t.Errorf("%s(%v, %v) = %v, %v", c.name, a, b, q, r)
				}
				wantQ, wantR := slices.Clone(q), slices.Clone(r)
				overwrite(q[:cap(q)])
				if !slices.Equal(r, wantR) {
					t.Fatalf("%s: quotient and remainder share memory", c.name)
				}
				overwrite(r[:cap(r)])
				if !slices.Equal(a[:cap(a)], wholeA) || !slices.Equal(b[:cap(b)], wholeB) {
					t.Fatalf("%s changed its arguments %v, %v", c.name, wholeA, wholeB)
				}
				checkNotRetained(t, c, [2][]uint64{wholeA[:len(a)], wholeB[:len(b)]}, [2][]uint64{wantQ, wantR})
			}
		}
	}
}

func checkNotRetained(t *testing.T, c call, args, want [2][]uint64) {
	t.Helper()
	q, r := c.do(args[0], args[1])
	overwrite(args[0])
	overwrite(args[1])
	if !slices.Equal(q, want[0]) || !slices.Equal(r, want[1]) {
		t.Fatalf("%s: got %v, %v, want %v", c.name, q, r, want)
	}
}

func overwrite(a []uint64) {
	for i := range a {
		a[i] = ^a[i]
	}
}

// R4: one list may be dividend and divisor.
func TestOneListTwice(t *testing.T) {
	for _, a := range lists() {
		checkDiv(t, a, a)
	}
}
