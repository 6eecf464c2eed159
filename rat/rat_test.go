package rat_test

import (
	"math"
	"math/big"
	"math/rand"
	"slices"
	"testing"

	"gradine/api"
	"gradine/rat"
)

const top = 1<<64 - 1

// withSpare is a copy of a list with capacity behind it that a function could overwrite.
func withSpare(a []uint64) []uint64 {
	b := slices.Clone(a)
	for range 4 {
		b = append(b, 0x5ca1ab1e)
	}
	return b[:len(a)]
}

// number is what a list says, by a way that does not use the program.
func number(a []uint64) *big.Int {
	words := make([]big.Word, len(a))
	for i, w := range a {
		words[i] = big.Word(w)
	}
	return new(big.Int).SetBits(words)
}

// list is the normalized list of a number without its sign.
func list(n *big.Int) []uint64 {
	var a []uint64
	for _, w := range n.Bits() {
		a = append(a, uint64(w))
	}
	return a
}

// exact is the valid number of a value, by a way that does not use the program.
func exact(v *big.Rat) api.Rat {
	return api.Rat{Neg: v.Sign() < 0, Num: withSpare(list(v.Num())), Den: withSpare(list(v.Denom()))}
}

// text is the number of a text, by a way that does not use the program.
func text(s string) *big.Rat {
	v, ok := new(big.Rat).SetString(s)
	if !ok {
		panic(s)
	}
	return v
}

// equal compares fields, word by word.
func equal(a, b api.Rat) bool {
	return a.Neg == b.Neg && slices.Equal(a.Num, b.Num) && slices.Equal(a.Den, b.Den)
}

// wantValue also says that a number is valid, as the fields of a value have only one valid form.
func wantValue(t *testing.T, what string, got api.Rat, want *big.Rat) {
	t.Helper()
	if !equal(got, exact(want)) {
		t.Errorf("%s = %v, want %v", what, got, want)
	}
}

// wantErrZero also says that there is no number beside the error (R2).
func wantErrZero(t *testing.T, what string, got api.Rat, e api.Errno) {
	t.Helper()
	if e != api.ErrZero || !equal(got, api.Rat{}) {
		t.Errorf("%s = %v, %v, want ErrZero", what, got, e)
	}
}

// few are values for tests that take them three at a time.
func few() []*big.Rat {
	var out []*big.Rat
	for _, s := range []string{
		"0", "1", "2", "6", "1/2", "1/6", "1/10", "7/3", "3/7", "9223372036854775808", "18446744073709551615/2",
		"1/18446744073709551616", "18446744073709551617/18446744073709551616",
		"340282366920938463463374607431768211455/18446744073709551614",
	} {
		out = append(out, text(s))
		if s != "0" {
			out = append(out, text("-"+s))
		}
	}
	return out
}

// values are few ones and others with numerators and denominators of one word and of several words.
func values() []*big.Rat {
	out := few()
	for _, s := range []string{
		"3", "4", "10", "1/3", "2/3", "5/6", "3/2", "4/15", "1/15", "18446744073709551615", "18446744073709551616",
		"9223372036854775807", "1/9223372036854775808", "1/18446744073709551615", "18446744073709551615/18446744073709551614",
		"18446744073709551616/3", "3/18446744073709551616", "340282366920938463463374607431768211456",
		"1/340282366920938463463374607431768211456", "340282366920938463463374607431768211457/340282366920938463463374607431768211455",
	} {
		out = append(out, text(s), text("-"+s))
	}
	r := rand.New(rand.NewSource(1))
	for range 10 {
		out = append(out, randomValue(r))
	}
	return out
}

func random(r *rand.Rand, n int) []uint64 {
	a := make([]uint64, n)
	for i := range a {
		a[i] = r.Uint64() >> r.Intn(64)
	}
	return a
}

func randomValue(r *rand.Rand) *big.Rat {
	den := append(random(r, r.Intn(4)), 1+r.Uint64()>>1)
	v := new(big.Rat).SetFrac(number(random(r, r.Intn(5))), number(den))
	if r.Intn(2) == 0 {
		v.Neg(v)
	}
	return v
}

// lists are natural numbers, normalized and not, and among them nothing but zeros and nil.
func lists() [][]uint64 {
	out := [][]uint64{nil}
	for _, a := range [][]uint64{
		{}, {0}, {0, 0, 0}, {1}, {1, 0}, {2}, {3}, {4}, {4, 0, 0}, {6}, {9, 0}, {12}, {15}, {1 << 63}, {top}, {top, 0},
		{0, 1}, {1, 1}, {6, 6}, {0, 12, 0}, {top, top}, {0, 0, 1}, {1, 0, 1, 0, 0}, {top, top, top},
	} {
		out = append(out, withSpare(a))
	}
	return out
}

// anyRats are numbers with all fields that two lists and a sign can make, most of them not valid.
func anyRats() []api.Rat {
	var out []api.Rat
	for _, num := range lists() {
		for _, den := range lists() {
			out = append(out, api.Rat{Num: num, Den: den}, api.Rat{Neg: true, Num: num, Den: den})
		}
	}
	return out
}

func ends0(a []uint64) bool {
	return len(a) > 0 && a[len(a)-1] == 0
}

// Promise 7.1.
func TestRight(t *testing.T) {
	for _, v := range values() {
		if !rat.Right(exact(v)) {
			t.Errorf("Right(%v) = false", v)
		}
	}
	for _, x := range anyRats() {
		normalized := !ends0(x.Num) && !ends0(x.Den)
		coprime := new(big.Int).GCD(nil, nil, number(x.Num), number(x.Den)).Cmp(big.NewInt(1)) == 0
		want := normalized && coprime && len(x.Den) > 0 && (len(x.Num) > 0 || !x.Neg)
		if rat.Right(x) != want {
			t.Errorf("Right(%v) = %t", x, !want)
		}
	}
}

// Promise 7.1, with each way not to be valid by itself.
func TestRightExamples(t *testing.T) {
	for _, c := range []struct {
		x     api.Rat
		right bool
	}{
		{api.Rat{}, false},
		{api.Rat{Neg: true}, false},
		{api.Rat{Num: []uint64{1}}, false},
		{api.Rat{Num: []uint64{1}, Den: []uint64{}}, false},
		{api.Rat{Num: []uint64{1}, Den: []uint64{0}}, false},
		{api.Rat{Den: []uint64{1}}, true},
		{api.Rat{Num: []uint64{}, Den: []uint64{1}}, true},
		{api.Rat{Neg: true, Den: []uint64{1}}, false},
		{api.Rat{Num: []uint64{0}, Den: []uint64{1}}, false},
		{api.Rat{Den: []uint64{2}}, false},
		{api.Rat{Den: []uint64{1, 0}}, false},
		{api.Rat{Num: []uint64{1}, Den: []uint64{1}}, true},
		{api.Rat{Neg: true, Num: []uint64{1}, Den: []uint64{1}}, true},
		{api.Rat{Num: []uint64{1, 0}, Den: []uint64{2}}, false},
		{api.Rat{Num: []uint64{1}, Den: []uint64{2, 0}}, false},
		{api.Rat{Num: []uint64{2}, Den: []uint64{4}}, false},
		{api.Rat{Num: []uint64{3}, Den: []uint64{4}}, true},
		{api.Rat{Num: []uint64{3}, Den: []uint64{3}}, false},
		{api.Rat{Num: []uint64{0, 1}, Den: []uint64{2}}, false},
		{api.Rat{Num: []uint64{0, 1}, Den: []uint64{3, 3}}, true},
		{api.Rat{Num: []uint64{0, 1}, Den: []uint64{0, 3}}, false},
	} {
		if rat.Right(c.x) != c.right {
			t.Errorf("Right(%v) = %t", c.x, !c.right)
		}
	}
}

// Promise 7.1 and R3: fields are compared word by word, whatever number they stand for; an empty list may be nil.
func TestSame(t *testing.T) {
	all := anyRats()
	for _, a := range all {
		for _, b := range all {
			if rat.Same(a, b) != equal(a, b) {
				t.Errorf("Same(%v, %v) = %t", a, b, !equal(a, b))
			}
		}
	}
	half := api.Rat{Num: []uint64{1}, Den: []uint64{2}}
	for _, c := range []struct {
		a, b api.Rat
		same bool
	}{
		{api.Rat{}, api.Rat{Num: []uint64{}, Den: []uint64{}}, true},
		{api.Rat{Num: []uint64{}, Den: []uint64{1}}, api.Rat{Den: []uint64{1}}, true},
		{api.Rat{}, api.Rat{Neg: true}, false},
		{api.Rat{}, api.Rat{Num: []uint64{0}}, false},
		{api.Rat{}, api.Rat{Den: []uint64{0}}, false},
		{half, api.Rat{Num: []uint64{1}, Den: []uint64{2}}, true},
		{half, api.Rat{Neg: true, Num: []uint64{1}, Den: []uint64{2}}, false},
		{half, api.Rat{Num: []uint64{2}, Den: []uint64{4}}, false},
		{half, api.Rat{Num: []uint64{1, 0}, Den: []uint64{2}}, false},
		{half, api.Rat{Num: []uint64{1}, Den: []uint64{2, 0}}, false},
		{half, api.Rat{Num: []uint64{1}, Den: []uint64{3}}, false},
		{half, api.Rat{Num: []uint64{3}, Den: []uint64{2}}, false},
		{half, api.Rat{Num: []uint64{2}, Den: []uint64{1}}, false},
		{api.Rat{Num: []uint64{1, 2}, Den: []uint64{3, 4}}, api.Rat{Num: []uint64{1, 2}, Den: []uint64{3, 4}}, true},
		{api.Rat{Num: []uint64{1, 2}, Den: []uint64{3, 4}}, api.Rat{Num: []uint64{1, 3}, Den: []uint64{3, 4}}, false},
	} {
		if rat.Same(c.a, c.b) != c.same || rat.Same(c.b, c.a) != c.same {
			t.Errorf("Same(%v, %v) is not %t", c.a, c.b, c.same)
		}
	}
}

// Promise 7.1.
func TestMake(t *testing.T) {
	for _, x := range anyRats() {
		got, e := rat.Make(x.Neg, x.Num, x.Den)
		if number(x.Den).Sign() == 0 {
			wantErrZero(t, "Make of a denominator 0", got, e)
			continue
		}
		want := new(big.Rat).SetFrac(number(x.Num), number(x.Den))
		if x.Neg {
			want.Neg(want)
		}
		wantValue(t, "Make", got, want)
		if e != api.OK || !rat.Right(got) {
			t.Errorf("Make(%v) = %v, %v", x, got, e)
		}
	}
}

// Promise 7.1, with results that are written out.
func TestMakeExamples(t *testing.T) {
	for _, c := range []struct {
		neg      bool
		num, den []uint64
		want     api.Rat
		err      api.Errno
	}{
		{true, nil, []uint64{5}, api.Rat{Den: []uint64{1}}, api.OK},
		{false, []uint64{0, 0}, []uint64{5, 0}, api.Rat{Den: []uint64{1}}, api.OK},
		{true, []uint64{1}, []uint64{1}, api.Rat{Neg: true, Num: []uint64{1}, Den: []uint64{1}}, api.OK},
		{false, []uint64{6}, []uint64{4}, api.Rat{Num: []uint64{3}, Den: []uint64{2}}, api.OK},
		{true, []uint64{6, 0}, []uint64{4, 0}, api.Rat{Neg: true, Num: []uint64{3}, Den: []uint64{2}}, api.OK},
		{false, []uint64{7}, []uint64{3}, api.Rat{Num: []uint64{7}, Den: []uint64{3}}, api.OK},
		{false, []uint64{0, 4}, []uint64{0, 6}, api.Rat{Num: []uint64{2}, Den: []uint64{3}}, api.OK},
		{true, []uint64{0, 1}, []uint64{2}, api.Rat{Neg: true, Num: []uint64{1 << 63}, Den: []uint64{1}}, api.OK},
		{false, []uint64{1}, nil, api.Rat{}, api.ErrZero},
		{true, []uint64{1}, []uint64{}, api.Rat{}, api.ErrZero},
		{true, []uint64{1, 2}, []uint64{0, 0}, api.Rat{}, api.ErrZero},
		{true, nil, nil, api.Rat{}, api.ErrZero},
		{false, []uint64{0}, []uint64{0}, api.Rat{}, api.ErrZero},
	} {
		if got, e := rat.Make(c.neg, c.num, c.den); e != c.err || !equal(got, c.want) {
			t.Errorf("Make(%t, %v, %v) = %v, %v", c.neg, c.num, c.den, got, e)
		}
	}
}

// Promise 7.1: the least int has no negative among the ints.
func TestOf(t *testing.T) {
	ints := []int{math.MinInt, math.MinInt + 1, math.MaxInt - 1, math.MaxInt, 1 << 32, -1 << 32}
	for n := -20; n <= 20; n++ {
		ints = append(ints, n)
	}
	for _, n := range ints {
		wantValue(t, "Of", rat.Of(n), new(big.Rat).SetInt64(int64(n)))
	}
	if x := rat.Of(math.MinInt); !equal(x, api.Rat{Neg: true, Num: []uint64{1 << 63}, Den: []uint64{1}}) {
		t.Error(x)
	}
	if x := rat.Of(0); !equal(x, api.Rat{Den: []uint64{1}}) {
		t.Error(x)
	}
}

// Promise 7.2.
func TestOneNumber(t *testing.T) {
	for _, v := range values() {
		x := exact(v)
		wantValue(t, "Neg", rat.Neg(x), new(big.Rat).Neg(v))
		if s := rat.Sign(x); s != v.Sign() {
			t.Errorf("Sign(%v) = %d", v, s)
		}
		y, e := rat.Inv(x)
		if v.Sign() == 0 {
			wantErrZero(t, "Inv(0)", y, e)
			continue
		}
		wantValue(t, "Inv", y, new(big.Rat).Inv(v))
		if e != api.OK {
			t.Error(v, e)
		}
	}
}

// checkPair holds the functions of two numbers against math/big.
func checkPair(t *testing.T, v, w *big.Rat) {
	t.Helper()
	a, b := exact(v), exact(w)
	name := v.RatString() + " and " + w.RatString()
	wantValue(t, "the sum of "+name, rat.Add(a, b), new(big.Rat).Add(v, w))
	wantValue(t, "the difference of "+name, rat.Sub(a, b), new(big.Rat).Sub(v, w))
	wantValue(t, "the product of "+name, rat.Mul(a, b), new(big.Rat).Mul(v, w))
	if c := rat.Cmp(a, b); c != v.Cmp(w) {
		t.Errorf("Cmp of %s is %d", name, c)
	}
	q, e := rat.Div(a, b)
	if w.Sign() == 0 {
		wantErrZero(t, "the quotient of "+name, q, e)
		return
	}
	wantValue(t, "the quotient of "+name, q, new(big.Rat).Quo(v, w))
	if e != api.OK {
		t.Error(name, e)
	}
}

// Promise 7.2.
func TestTwoNumbers(t *testing.T) {
	for _, v := range values() {
		for _, w := range values() {
			checkPair(t, v, w)
		}
	}
}

// Promise 7.2: all quotients of small numbers, many of whose sums, differences and products are 0, integers or have to be reduced.
func TestSmallNumbers(t *testing.T) {
	var small []*big.Rat
	for den := int64(1); den <= 6; den++ {
		for num := int64(-7); num <= 7; num++ {
			small = append(small, big.NewRat(num, den))
		}
	}
	for _, v := range small {
		for _, w := range small {
			checkPair(t, v, w)
		}
	}
}

// Promise 7.2: random numbers, and pairs of them whose sum, difference, product or quotient is a short number.
func TestRandomNumbers(t *testing.T) {
	r := rand.New(rand.NewSource(2))
	for range 1000 {
		v, w := randomValue(r), randomValue(r)
		checkPair(t, v, w)
		near := new(big.Rat).Add(v, big.NewRat(int64(r.Intn(7)-3), int64(1+r.Intn(4))))
		checkPair(t, v, near)
		checkPair(t, near, new(big.Rat).Neg(v))
		if w.Sign() != 0 {
			checkPair(t, new(big.Rat).Quo(v, w), w)
			checkPair(t, w, new(big.Rat).Inv(w))
		}
	}
}

// Promise 7.2: long numbers.
func TestLongNumbers(t *testing.T) {
	r := rand.New(rand.NewSource(3))
	for _, n := range []int{20, 50, 90} {
		f := number(random(r, n/2))
		v := new(big.Rat).SetFrac(number(random(r, n)), new(big.Int).Mul(f, number(random(r, n))))
		w := new(big.Rat).SetFrac(number(random(r, n)), new(big.Int).Mul(f, number(random(r, n))))
		checkPair(t, v, w.Neg(w))
		checkPair(t, v, new(big.Rat).Inv(w))
	}
}

// Promise 7.2, with results that are written out.
func TestExamples(t *testing.T) {
	for _, c := range []struct {
		a, b, sum, difference, product, quotient string
		order                                    int
	}{
		{"1/6", "1/10", "4/15", "1/15", "1/60", "5/3", 1},
		{"0", "1", "1", "-1", "0", "0", -1},
		{"0", "-1", "-1", "1", "0", "0", 1},
		{"1", "-1", "0", "2", "-1", "-1", 1},
		{"-1", "-1", "-2", "0", "1", "1", 0},
		{"1/2", "1/2", "1", "0", "1/4", "1", 0},
		{"1/2", "-1/2", "0", "1", "-1/4", "-1", 1},
		{"3/2", "1/2", "2", "1", "3/4", "3", 1},
		{"2/3", "3/2", "13/6", "-5/6", "1", "4/9", -1},
		{"-2/3", "3/2", "5/6", "-13/6", "-1", "-4/9", -1},
		{"-1/2", "-1/3", "-5/6", "-1/6", "1/6", "3/2", -1},
		{"18446744073709551615", "1", "18446744073709551616", "18446744073709551614", "18446744073709551615", "18446744073709551615", 1},
		{"1/18446744073709551616", "-1/18446744073709551616", "0", "1/9223372036854775808", "-1/340282366920938463463374607431768211456", "-1", 1},
	} {
		a, b := exact(text(c.a)), exact(text(c.b))
		q, e := rat.Div(a, b)
		wantValue(t, c.a+" + "+c.b, rat.Add(a, b), text(c.sum))
		wantValue(t, c.a+" - "+c.b, rat.Sub(a, b), text(c.difference))
		wantValue(t, c.a+" * "+c.b, rat.Mul(a, b), text(c.product))
		wantValue(t, c.a+" / "+c.b, q, text(c.quotient))
		if e != api.OK || rat.Cmp(a, b) != c.order {
			t.Error(c.a, c.b, e, rat.Cmp(a, b))
		}
	}
}

// Promise 7.2: division by 0, also of 0.
func TestDivisionByZero(t *testing.T) {
	zero := rat.Of(0)
	x, e := rat.Inv(zero)
	wantErrZero(t, "Inv(0)", x, e)
	for _, v := range values() {
		x, e := rat.Div(exact(v), zero)
		wantErrZero(t, "Div by 0", x, e)
		x, e = rat.Div(exact(v), rat.Neg(zero))
		wantErrZero(t, "Div by -0", x, e)
		x, e = rat.Div(exact(v), rat.Sub(exact(v), exact(v)))
		wantErrZero(t, "Div by a difference that is 0", x, e)
	}
}

// Promise 7.3: what holds of two numbers of a field.
func TestFieldOfTwo(t *testing.T) {
	zero, one := rat.Of(0), rat.Of(1)
	for _, v := range values() {
		a := exact(v)
		if !rat.Same(rat.Add(a, zero), a) || !rat.Same(rat.Mul(one, a), a) || !rat.Same(rat.Add(rat.Neg(a), a), zero) {
			t.Errorf("0, 1 and the negative of %v", v)
		}
		for _, w := range values() {
			b := exact(w)
			sum, product := rat.Add(a, b), rat.Mul(a, b)
			if !rat.Same(sum, rat.Add(b, a)) || !rat.Same(product, rat.Mul(b, a)) {
				t.Errorf("%v and %v do not commute", v, w)
			}
			if !rat.Same(rat.Sub(sum, b), a) || !rat.Same(rat.Add(rat.Sub(a, b), b), a) {
				t.Errorf("%v and %v: Sub does not undo Add", v, w)
			}
			if w.Sign() == 0 {
				continue
			}
			if q, e := rat.Div(product, b); e != api.OK || !rat.Same(q, a) {
				t.Errorf("%v and %v: Div does not undo Mul", v, w)
			}
			if q, _ := rat.Div(a, b); !rat.Same(rat.Mul(q, b), a) {
				t.Errorf("%v and %v: Mul does not undo Div", v, w)
			}
		}
	}
}

// Promise 7.3: what holds of three numbers of a field.
func TestFieldOfThree(t *testing.T) {
	for _, u := range few() {
		for _, v := range few() {
			for _, w := range few() {
				a, b, c := exact(u), exact(v), exact(w)
				if !rat.Same(rat.Add(rat.Add(a, b), c), rat.Add(a, rat.Add(b, c))) {
					t.Errorf("the sum of %v, %v and %v", u, v, w)
				}
				if !rat.Same(rat.Mul(rat.Mul(a, b), c), rat.Mul(a, rat.Mul(b, c))) {
					t.Errorf("the product of %v, %v and %v", u, v, w)
				}
				if !rat.Same(rat.Mul(a, rat.Add(b, c)), rat.Add(rat.Mul(a, b), rat.Mul(a, c))) {
					t.Errorf("%v times the sum of %v and %v", u, v, w)
				}
			}
		}
	}
}

// Promise 7.4.
func TestOrder(t *testing.T) {
	for _, u := range few() {
		for _, v := range few() {
			a, b := exact(u), exact(v)
			order := rat.Cmp(a, b)
			if order != -rat.Cmp(b, a) || (order == 0) != rat.Same(a, b) || order != rat.Sign(rat.Sub(a, b)) {
				t.Errorf("Cmp(%v, %v) = %d", u, v, order)
			}
			for _, w := range few() {
				c := exact(w)
				if order < 0 && rat.Cmp(b, c) < 0 && rat.Cmp(a, c) >= 0 {
					t.Errorf("%v, %v and %v are not in order", u, v, w)
				}
				if rat.Cmp(rat.Add(a, c), rat.Add(b, c)) != order {
					t.Errorf("%v and %v, each with %v added", u, v, w)
				}
				if rat.Cmp(rat.Mul(a, c), rat.Mul(b, c)) != order*rat.Sign(c) {
					t.Errorf("%v and %v, each %v times", u, v, w)
				}
			}
		}
	}
}

// call is a function of the package as one of two numbers that returns one.
type call struct {
	name string
	do   func(a, b api.Rat) api.Rat
}

func calls() []call {
	return []call{
		{"Right", func(a, _ api.Rat) api.Rat { rat.Right(a); return api.Rat{} }},
		{"Same", func(a, b api.Rat) api.Rat { rat.Same(a, b); return api.Rat{} }},
		{"Make", func(a, b api.Rat) api.Rat { x, _ := rat.Make(a.Neg, a.Num, b.Den); return x }},
		{"Neg", func(a, _ api.Rat) api.Rat { return rat.Neg(a) }},
		{"Sign", func(a, _ api.Rat) api.Rat { rat.Sign(a); return api.Rat{} }},
		{"Add", rat.Add},
		{"Sub", rat.Sub},
		{"Mul", rat.Mul},
		{"Inv", func(a, _ api.Rat) api.Rat { x, _ := rat.Inv(a); return x }},
		{"Div", func(a, b api.Rat) api.Rat { x, _ := rat.Div(a, b); return x }},
		{"Cmp", func(a, b api.Rat) api.Rat { rat.Cmp(a, b); return api.Rat{} }},
	}
}

// R1 and R9: numbers that are not valid may have any result, but have one.
func TestNumbersThatAreNotValid(t *testing.T) {
	all := anyRats()
	some := []api.Rat{{}, {Neg: true}, rat.Of(-1), {Neg: true, Den: []uint64{1}}, {Num: []uint64{4, 0}, Den: []uint64{6, 6, 0}}, {Num: []uint64{top, top}}}
	for _, c := range calls() {
		for _, a := range all {
			for _, b := range some {
				c.do(a, b)
				c.do(b, a)
			}
		}
	}
}

// whole are all words of a number, those behind the end of its lists too.
func whole(x api.Rat) []uint64 {
	return slices.Concat(x.Num[:cap(x.Num)], x.Den[:cap(x.Den)])
}

func clone(x api.Rat) api.Rat {
	return api.Rat{Neg: x.Neg, Num: slices.Clone(x.Num), Den: slices.Clone(x.Den)}
}

func overwrite(a []uint64) {
	for i := range a[:cap(a)] {
		a[:cap(a)][i] ^= top
	}
}

// checkApart holds one call to R4: its arguments stay, and its result is new memory in which both lists are apart.
func checkApart(t *testing.T, c call, a, b api.Rat) {
	t.Helper()
	wholeA, wholeB := whole(a), whole(b)
	got := c.do(a, b)
	want := clone(got)
	if !slices.Equal(whole(a), wholeA) || !slices.Equal(whole(b), wholeB) {
		t.Fatalf("%s changed its arguments", c.name)
	}
	overwrite(got.Num)
	if !slices.Equal(got.Den, want.Den) {
		t.Fatalf("%s: both lists of the result share memory", c.name)
	}
	overwrite(got.Den)
	if !slices.Equal(whole(a), wholeA) || !slices.Equal(whole(b), wholeB) {
		t.Fatalf("%s: the result and an argument share memory", c.name)
	}
	again := c.do(a, b)
	for _, l := range [][]uint64{a.Num, a.Den, b.Num, b.Den} {
		overwrite(l)
	}
	if !equal(again, want) {
		t.Fatalf("%s: got %v, want %v", c.name, again, want)
	}
}

// R4.
func TestArgumentsAndResultsAreApart(t *testing.T) {
	for _, c := range calls() {
		for _, v := range values() {
			for _, w := range values() {
				checkApart(t, c, exact(v), exact(w))
			}
		}
	}
	// Of these, 7.1 promises results for lists that are not normalized too.
	for _, c := range calls()[:3] {
		for _, num := range lists() {
			for _, den := range lists() {
				checkApart(t, c, api.Rat{Num: withSpare(num)}, api.Rat{Neg: true, Den: withSpare(den)})
			}
		}
	}
}

// R4: Of returns new memory, whichever number it made before.
func TestOfReturnsNewMemory(t *testing.T) {
	for _, n := range []int{math.MinInt, -1, 0, 1, 7, math.MaxInt} {
		x := rat.Of(n)
		overwrite(x.Num)
		overwrite(x.Den)
		wantValue(t, "Of", rat.Of(n), new(big.Rat).SetInt64(int64(n)))
	}
}

// R4: one number, and one list, may be both arguments.
func TestOneNumberTwice(t *testing.T) {
	for _, v := range values() {
		x := exact(v)
		wantValue(t, "x + x", rat.Add(x, x), new(big.Rat).Add(v, v))
		wantValue(t, "x - x", rat.Sub(x, x), new(big.Rat))
		wantValue(t, "x * x", rat.Mul(x, x), new(big.Rat).Mul(v, v))
		if !rat.Same(x, x) || rat.Cmp(x, x) != 0 {
			t.Errorf("%v is not the same as itself", v)
		}
		one, e := rat.Make(true, x.Den, x.Den)
		wantValue(t, "-x / x", one, big.NewRat(-1, 1))
		if e != api.OK {
			t.Error(e)
		}
	}
}
