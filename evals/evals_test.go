package evals_test

import (
	"math"
	"math/big"
	"math/rand"
	"slices"
	"strings"
	"testing"

	"gradine/api"
	"gradine/evals"
	"gradine/kernel"
	"gradine/line"
)

const (
	top      = 1<<64 - 1
	sign     = 1 << 63
	nan      = 0x7ff8000000000000
	infinity = 0x7ff0000000000000
	greatest = 0x7fefffffffffffff
	normal   = 0x0010000000000000 // the least normal double
)

// withSpare is a copy of a list with capacity behind it that a function could overwrite.
func withSpare[T any](a []T, spare T) []T {
	b := slices.Clone(a)
	for range 4 {
		b = append(b, spare)
	}
	return b[:len(a)]
}

// list is the normalized list of a number without its sign.
func list(n *big.Int) []uint64 {
	var a []uint64
	for _, w := range n.Bits() {
		a = append(a, uint64(w))
	}
	return withSpare(a, 0x5ca1ab1e)
}

// exact is the valid number of a value, by a way that does not use the program.
func exact(v *big.Rat) api.Rat {
	return api.Rat{Neg: v.Sign() < 0, Num: list(v.Num()), Den: list(v.Denom())}
}

// value is the value of a number, by a way that does not use the program.
func value(x api.Rat) *big.Rat {
	whole := func(a []uint64) *big.Int {
		n := new(big.Int)
		for _, w := range slices.Backward(a) {
			n.Add(n.Lsh(n, 64), new(big.Int).SetUint64(w))
		}
		return n
	}
	v := new(big.Rat).SetFrac(whole(x.Num), whole(x.Den))
	if x.Neg {
		v.Neg(v)
	}
	return v
}

// num is the exact number of a text: an integer as whole reads it, and optionally / and another one.
func num(s string) api.Rat {
	above, below, _ := strings.Cut(s, "/")
	v := new(big.Rat).SetFrac(whole(above), big.NewInt(1))
	if below != "" {
		v.Quo(v, new(big.Rat).SetInt(whole(below)))
	}
	return exact(v)
}

// whole is the integer of a text: digits, or a power of 2 as 2^n with + or - and digits behind it; a - ahead negates all of it.
func whole(s string) *big.Int {
	rest, neg := strings.CutPrefix(s, "-")
	n := new(big.Int)
	if exponent, ok := strings.CutPrefix(rest, "2^"); ok {
		at := strings.IndexAny(exponent+"+", "+-")
		n.Lsh(big.NewInt(1), uint(whole(exponent[:at]).Int64()))
		if at < len(exponent) {
			n.Add(n, whole(strings.TrimPrefix(exponent[at:], "+")))
		}
	} else if _, ok := n.SetString(rest, 10); !ok {
		panic(s)
	}
	if neg {
		n.Neg(n)
	}
	return n
}

// nums are the exact numbers of some texts.
func nums(texts ...string) []api.Rat {
	var out []api.Rat
	for _, s := range texts {
		out = append(out, num(s))
	}
	return out
}

func input(n int) api.Ins {
	return api.Ins{Op: 1, A: n}
}

func constant(s string) api.Ins {
	return api.Ins{Op: 2, Num: num(s)}
}

func one(op, a int) api.Ins {
	return api.Ins{Op: op, A: a}
}

func two(op, a, b int) api.Ins {
	return api.Ins{Op: op, A: a, B: b}
}

// badNums are no valid exact numbers.
func badNums() []api.Rat {
	return []api.Rat{
		{}, {Neg: true}, {Num: []uint64{}, Den: []uint64{}}, {Num: []uint64{1}}, {Num: []uint64{1}, Den: []uint64{0}},
		{Num: []uint64{2}, Den: []uint64{4}}, {Num: []uint64{0}, Den: []uint64{1}}, {Neg: true, Den: []uint64{1}},
		{Num: []uint64{1, 0}, Den: []uint64{1}}, {Num: []uint64{1}, Den: []uint64{1, 0}}, {Num: []uint64{0, 3}, Den: []uint64{0, 2}},
	}
}

// noPrograms are instructions that are no program.
func noPrograms() [][]api.Ins {
	return [][]api.Ins{
		{{}}, {{Op: 11}}, {input(-1)}, {input(65536)}, {one(3, 0)}, {input(0), one(8, 1)}, {input(0), two(4, 0, 1)}, {input(0), two(7, -1, 0)},
		{input(0), two(9, 0, 1)}, {input(9), {Op: 2}}, {input(0), {Op: 3, Num: num("0")}}, {input(0), constant("0"), two(7, 0, 1), {Op: 12}}, make([]api.Ins, 65537),
	}
}

func sameNum(a, b api.Rat) bool {
	return a.Neg == b.Neg && slices.Equal(a.Num, b.Num) && slices.Equal(a.Den, b.Den)
}

func sameNums(a, b []api.Rat) bool {
	return slices.EqualFunc(a, b, sameNum)
}

func sameProgram(a, b []api.Ins) bool {
	return slices.EqualFunc(a, b, func(x, y api.Ins) bool {
		return x.Op == y.Op && x.A == y.A && x.B == y.B && sameNum(x.Num, y.Num)
	})
}

// wantExact also says that values are valid, as each has only one valid form.
func wantExact(t *testing.T, l []api.Ins, in, forms, want []api.Rat) {
	t.Helper()
	got, at, e := evals.Exact(l, in, forms)
	if e != api.OK || at != 0 || !sameNums(got, want) {
		t.Errorf("Exact = %v, %d, %v, want %v", got, at, e, want)
	}
}

// wantError also says that there are no values beside an error (R2).
func wantError(t *testing.T, l []api.Ins, in, forms []api.Rat, at int, want api.Errno) {
	t.Helper()
	got, gotAt, e := evals.Exact(l, in, forms)
	if e != want || gotAt != at || len(got) != 0 {
		t.Errorf("Exact has %d values, %d, %v, want %d, %v", len(got), gotAt, e, at, want)
	}
}

// Promise 16.1, written out.
func TestExactExamples(t *testing.T) {
	wantExact(t, []api.Ins{input(0), two(6, 0, 0)}, nums("3/2"), nil, nums("3/2", "9/4"))
	wantError(t, []api.Ins{input(0), input(1), two(7, 0, 1)}, nums("3/2", "0"), nil, 2, api.ErrZero)
	wantExact(t, nil, nil, nil, nil)
	wantExact(t, []api.Ins{}, nums("1"), nums("2"), nil)
	l := []api.Ins{
		input(1), input(0), constant("-1/6"), one(3, 2), two(4, 0, 2), two(5, 0, 1), two(5, 1, 0), two(6, 2, 5), two(7, 1, 2), two(7, 2, 1),
		one(8, 0), one(9, 4), one(10, 1), two(4, 10, 12), two(5, 5, 5), one(3, 14), input(1),
	}
	wantExact(t, l, nums("4", "1/10"), nums("7", "-3", "1/2"), nums(
		"1/10", "4", "-1/6", "1/6", "-1/15", "-39/10", "39/10", "13/20", "-24", "-1/24",
		"7", "-3", "1/2", "15/2", "0", "0", "1/10"))
}

// Promise 16.1: each of the Ops 1 to 10 alone.
func TestExactEachOp(t *testing.T) {
	for i, want := range []string{"5/3", "-1/2", "-5/3", "7/6", "13/6", "-5/6", "-10/3", "11", "11", "11"} {
		x := []api.Ins{input(0), constant("-1/2"), one(3, 0), two(4, 0, 1), two(5, 0, 1), two(6, 0, 1), two(7, 0, 1), one(8, 0), one(9, 0), one(10, 0)}[i]
		wantExact(t, []api.Ins{input(0), constant("-1/2"), x}, nums("5/3"), nums("11"), nums("5/3", "-1/2", want))
	}
}

// Promise 16.1: inputs with and without an element, and more elements than are used.
func TestExactInputs(t *testing.T) {
	l := []api.Ins{input(2), input(0), two(5, 0, 1)}
	wantError(t, l, nil, nil, 0, api.ErrIndex)
	wantError(t, l, nums("1"), nil, 0, api.ErrIndex)
	wantError(t, l, nums("1", "2"), nil, 0, api.ErrIndex)
	wantExact(t, l, nums("1", "2", "3"), nil, nums("3", "1", "2"))
	wantExact(t, l, nums("1", "2", "3", "4"), nums("9"), nums("3", "1", "2"))
	wantError(t, []api.Ins{input(0), input(1), input(2)}, nums("1", "2"), nil, 2, api.ErrIndex)
	wantError(t, []api.Ins{input(0), one(3, 0), input(65535), input(65534)}, nums("1"), nil, 2, api.ErrIndex)
	wantError(t, []api.Ins{constant("1"), input(0)}, nil, nums("5"), 1, api.ErrIndex)
	many := make([]api.Rat, 65536)
	for i := range many {
		many[i] = api.Rat{Num: []uint64{uint64(i + 1)}, Den: []uint64{1}}
	}
	wantExact(t, []api.Ins{input(65535), input(0)}, many, nil, nums("65536", "1"))
	wantError(t, []api.Ins{input(0), input(65535)}, many[:65535], nil, 1, api.ErrIndex)
}

// Promise 16.1: the forms take the elements of forms in order, whatever their operands are.
func TestExactForms(t *testing.T) {
	l := []api.Ins{input(0), one(10, 0), one(8, 0), constant("2"), one(9, 2), two(4, 1, 4), one(8, 5)}
	wantError(t, l, nums("-1"), nil, 1, api.ErrInexact)
	wantError(t, l, nums("-1"), nums("5"), 2, api.ErrInexact)
	wantError(t, l, nums("-1"), nums("5", "6"), 4, api.ErrInexact)
	wantError(t, l, nums("-1"), nums("5", "6", "7"), 6, api.ErrInexact)
	wantExact(t, l, nums("-1"), nums("5", "6", "7", "-8"), nums("-1", "5", "6", "2", "7", "12", "-8"))
	wantExact(t, l, nums("-1"), nums("5", "6", "7", "-8", "9"), nums("-1", "5", "6", "2", "7", "12", "-8"))
	wantExact(t, []api.Ins{constant("4"), one(8, 0), one(9, 0), one(10, 0)}, nil, nums("0", "0", "1/3"), nums("4", "0", "0", "1/3"))
	wantError(t, []api.Ins{constant("4"), one(8, 0)}, nums("2"), nil, 1, api.ErrInexact)
}

// Promise 16.1: what is no program, and elements that are not valid, wherever they are and whether they are used.
func TestExactErrArg(t *testing.T) {
	for _, l := range noPrograms() {
		wantError(t, l, nums("1"), nums("2"), 0, api.ErrArg)
		wantError(t, l, nil, nil, 0, api.ErrArg)
	}
	l := []api.Ins{constant("7"), input(1), one(8, 0)}
	for _, bad := range badNums() {
		for i := range 4 {
			list := nums("1", "2", "3", "4")
			list[i] = bad
			wantError(t, l, list, nums("3"), 0, api.ErrArg)
			wantError(t, l, nums("3", "4"), list, 0, api.ErrArg)
			wantError(t, l, nil, list, 0, api.ErrArg)
			wantError(t, l, list, nil, 0, api.ErrArg)
			wantError(t, nil, list, nil, 0, api.ErrArg)
			wantError(t, nil, nil, list, 0, api.ErrArg)
		}
	}
}

// Promise 16.1: a div by 0 as the first, a middle and the last operation.
func TestExactDivisionByZero(t *testing.T) {
	div := two(7, 0, 1)
	for _, dividend := range []string{"0", "1", "-5/7"} {
		in := nums(dividend, "0")
		wantError(t, []api.Ins{input(0), input(1), div}, in, nil, 2, api.ErrZero)
		wantError(t, []api.Ins{input(0), input(1), div, one(3, 0), one(3, 2)}, in, nil, 2, api.ErrZero)
		wantError(t, []api.Ins{input(0), input(1), one(3, 0), two(6, 0, 0), div, one(3, 0)}, in, nil, 4, api.ErrZero)
		wantError(t, []api.Ins{input(0), input(1), one(3, 0), two(6, 0, 0), div}, in, nil, 4, api.ErrZero)
		wantError(t, []api.Ins{input(0), two(5, 0, 0), two(7, 0, 1), two(7, 1, 1)}, in, nil, 2, api.ErrZero)
	}
	wantError(t, []api.Ins{constant("0"), two(7, 0, 0)}, nil, nil, 1, api.ErrZero)
	wantError(t, []api.Ins{constant("4"), one(8, 0), two(7, 0, 1)}, nil, nums("0"), 2, api.ErrZero)
	wantExact(t, []api.Ins{constant("0"), constant("-4"), two(7, 0, 1)}, nil, nil, nums("0", "-4", "0"))
	l := make([]api.Ins, 65536)
	for i := range l {
		l[i] = constant("0")
	}
	l[65535] = two(7, 65534, 65533)
	wantError(t, l, nil, nil, 65535, api.ErrZero)
}

// bigOf is a program whose last instruction makes a number of many bits.
type bigOf struct {
	l    []api.Ins
	in   []api.Rat
	want string
}

// Promise 16.1: values of exactly 4096 bits, of each Op, above and below the line.
func TestExactMostBits(t *testing.T) {
	for _, s := range []string{"2^4096-1", "-2^4096-1", "2^4095", "1/2^4096-1", "-1/2^4095", "2^4096-1/2^4095", "2^4095/2^4096-1"} {
		v := nums(s)
		wantExact(t, []api.Ins{input(0)}, v, nil, v)
		wantExact(t, []api.Ins{{Op: 2, Num: num(s)}}, nil, nil, v)
		for op := 8; op <= 10; op++ {
			wantExact(t, []api.Ins{constant("1"), one(op, 0)}, nil, v, append(nums("1"), v...))
		}
		neg := new(big.Rat).Neg(value(v[0]))
		wantExact(t, []api.Ins{input(0), one(3, 0)}, v, nil, append(nums(s), exact(neg)))
	}
	for _, c := range []bigOf{
		{[]api.Ins{input(0), input(1), two(4, 0, 1)}, nums("2^4095", "2^4095-1"), "2^4096-1"},
		{[]api.Ins{input(0), input(1), two(5, 0, 1)}, nums("-2^4095", "2^4095-1"), "-2^4096-1"},
		{[]api.Ins{input(0), input(1), two(6, 0, 1)}, nums("2^2048", "2^2047"), "2^4095"},
		{[]api.Ins{input(0), input(1), two(7, 0, 1)}, nums("2^2048", "1/2^2047"), "2^4095"},
		{[]api.Ins{input(0), input(1), two(7, 0, 1)}, nums("1/2^2048", "2^2047"), "1/2^4095"},
		{[]api.Ins{input(0), input(1), two(6, 0, 1)}, nums("2^4096-1", "1/2^4096-1"), "1"},
		{[]api.Ins{input(0), input(1), two(5, 0, 1)}, nums("2^4096-1", "2^4096-2"), "1"},
	} {
		got, at, e := evals.Exact(c.l, c.in, nil)
		if e != api.OK || at != 0 || len(got) != 3 || !sameNum(got[2], num(c.want)) {
			t.Errorf("%s: %d values, %d, %v", c.want, len(got), at, e)
		}
	}
}

// Promise 16.1: values of 4097 bits and more, of each Op, above and below the line.
func TestExactErrBig(t *testing.T) {
	for _, s := range []string{"2^4096", "-2^4096", "2^4096+1", "1/2^4096", "-1/2^4096+1", "3/2^4096", "2^4096/3", "2^4097-1", "2^9000", "1/2^9000"} {
		v := nums(s)
		wantError(t, []api.Ins{input(0)}, v, nil, 0, api.ErrBig)
		wantError(t, []api.Ins{constant("1"), input(0), one(3, 1)}, v, nil, 1, api.ErrBig)
		wantError(t, []api.Ins{constant("1"), {Op: 2, Num: num(s)}}, nil, nil, 1, api.ErrBig)
		for op := 8; op <= 10; op++ {
			wantError(t, []api.Ins{constant("1"), one(op, 0)}, nil, v, 1, api.ErrBig)
		}
		// What is not used has no value.
		wantExact(t, []api.Ins{input(1), one(8, 0)}, append(slices.Clone(v), num("2"), v[0]), append(nums("3"), v...), nums("2", "3"))
	}
	for _, c := range []bigOf{
		{l: []api.Ins{input(0), input(1), two(4, 0, 1)}, in: nums("2^4095", "2^4095")},
		{l: []api.Ins{input(0), input(1), two(4, 0, 1)}, in: nums("2^4096-1", "1")},
		{l: []api.Ins{input(0), input(1), two(4, 0, 1)}, in: nums("1/2^4095", "1/3")},
		{l: []api.Ins{input(0), input(1), two(5, 0, 1)}, in: nums("-2^4095", "2^4095")},
		{l: []api.Ins{input(0), input(1), two(6, 0, 1)}, in: nums("2^2048", "2^2048")},
		{l: []api.Ins{input(0), input(1), two(6, 0, 1)}, in: nums("-1/2^2048", "1/2^2048")},
		{l: []api.Ins{input(0), input(1), two(7, 0, 1)}, in: nums("2^2048", "1/2^2048")},
		{l: []api.Ins{input(0), input(1), two(7, 0, 1)}, in: nums("1/2^2048", "-2^2048")},
	} {
		wantError(t, c.l, c.in, nil, 2, api.ErrBig)
		wantError(t, append(c.l, two(7, 0, 1)), c.in, nil, 2, api.ErrBig)
	}
	squares := []api.Ins{constant("2")}
	for i := range 20 {
		squares = append(squares, two(6, i, i))
	}
	wantError(t, squares, nil, nil, 12, api.ErrBig)
	if v, at, e := evals.Exact(squares[:12], nil, nil); e != api.OK || at != 0 || len(v) != 12 || !sameNum(v[11], num("2^2048")) {
		t.Errorf("%d values, %d, %v", len(v), at, e)
	}
}

// Promise 16.1: of several errors, that of the first instruction, and ErrArg ahead of all.
func TestExactFirstError(t *testing.T) {
	zero, huge := constant("0"), constant("2^4096")
	div, missing, form := two(7, 0, 0), input(1), one(9, 0)
	errs := []struct {
		x api.Ins
		e api.Errno
	}{{div, api.ErrZero}, {missing, api.ErrIndex}, {form, api.ErrInexact}, {huge, api.ErrBig}}
	for _, a := range errs {
		for _, b := range errs {
			wantError(t, []api.Ins{zero, a.x, b.x}, nums("1"), nil, 1, a.e)
			wantError(t, []api.Ins{zero, input(0), one(3, 1), a.x, b.x, input(0)}, nums("1"), nil, 3, a.e)
			wantError(t, []api.Ins{zero, a.x, b.x, {}}, nums("1"), nil, 0, api.ErrArg)
			wantError(t, []api.Ins{zero, a.x, b.x}, badNums()[:1], nil, 0, api.ErrArg)
			wantError(t, []api.Ins{zero, a.x, b.x}, nil, badNums()[:1], 0, api.ErrArg)
		}
	}
	// A huge number divided by 0 has no value that could be too big, and a huge form or input that comes too late none either.
	wantError(t, []api.Ins{zero, constant("2^4095"), two(7, 1, 0)}, nil, nil, 2, api.ErrZero)
	wantError(t, []api.Ins{zero, one(8, 0), one(8, 0)}, nil, nums("2^4096", "1"), 1, api.ErrBig)
	wantError(t, []api.Ins{zero, one(8, 0), one(8, 0)}, nil, nums("1", "2^4096"), 2, api.ErrBig)
	wantError(t, []api.Ins{zero, input(2), input(1)}, nums("1", "2^4096"), nil, 1, api.ErrIndex)
	wantError(t, []api.Ins{zero, input(1), input(2)}, nums("1", "2^4096"), nil, 1, api.ErrBig)
}

// texts are those of exact numbers that random programs take.
func texts() []string {
	return []string{"0", "1", "-1", "2", "1/2", "-3/7", "10/3", "2^64", "-1/2^64", "2^64-1/2^70+1", "2^1500+1", "-1/2^1400-1"}
}

func pick(r *rand.Rand) string {
	return texts()[r.Intn(len(texts()))]
}

// randomProgram is a program of n instructions, with forms or without them.
func randomProgram(r *rand.Rand, n, inputs int, forms bool) []api.Ins {
	l := make([]api.Ins, n)
	for i := range l {
		op := 1 + r.Intn(10)
		switch {
		case op == 1 || i == 0:
			l[i] = input(r.Intn(inputs))
		case op == 2:
			l[i] = constant(pick(r))
		case op == 3 || op > 7 && forms:
			l[i] = one(op, r.Intn(i))
		default:
			l[i] = two(4+op%4, r.Intn(i), r.Intn(i))
		}
	}
	return l
}

func randomNums(r *rand.Rand, n int) []api.Rat {
	var out []api.Rat
	for range n {
		out = append(out, num(pick(r)))
	}
	return out
}

// bitsOf is the greater of the lengths of both parts.
func bitsOf(v *big.Rat) int {
	return max(v.Num().BitLen(), v.Denom().BitLen())
}

// oracle is Exact of valid arguments, by a way that does not use the program.
func oracle(l []api.Ins, in, forms []api.Rat) ([]api.Rat, int, api.Errno) {
	var vals []*big.Rat
	var out []api.Rat
	used := 0
	for i, x := range l {
		v := new(big.Rat)
		switch x.Op {
		case 1:
			if x.A >= len(in) {
				return nil, i, api.ErrIndex
			}
			v = value(in[x.A])
		case 2:
			v = value(x.Num)
		case 3:
			v.Neg(vals[x.A])
		case 4:
			v.Add(vals[x.A], vals[x.B])
		case 5:
			v.Sub(vals[x.A], vals[x.B])
		case 6:
			v.Mul(vals[x.A], vals[x.B])
		case 7:
			if vals[x.B].Sign() == 0 {
				return nil, i, api.ErrZero
			}
			v.Quo(vals[x.A], vals[x.B])
		default:
			if used == len(forms) {
				return nil, i, api.ErrInexact
			}
			v = value(forms[used])
			used++
		}
		if bitsOf(v) > 4096 {
			return nil, i, api.ErrBig
		}
		vals, out = append(vals, v), append(out, exact(v))
	}
	return out, 0, api.OK
}

// Promise 16.1, for programs of each Op in any order; each error and a run without one occur.
func TestExactRandom(t *testing.T) {
	r := rand.New(rand.NewSource(1))
	seen := map[api.Errno]int{}
	for range 8000 {
		l := randomProgram(r, 1+r.Intn(16), 4, true)
		in, forms := randomNums(r, 2+r.Intn(4)), randomNums(r, r.Intn(8))
		got, at, e := evals.Exact(l, in, forms)
		want, wantAt, wantE := oracle(l, in, forms)
		if e != wantE || at != wantAt || !sameNums(got, want) {
			t.Fatalf("%v for %v and %v: got %v, %d, %v, want %v, %d, %v", l, in, forms, got, at, e, want, wantAt, wantE)
		}
		seen[e]++
	}
	for _, e := range []api.Errno{api.OK, api.ErrIndex, api.ErrZero, api.ErrInexact, api.ErrBig} {
		if seen[e] < 40 {
			t.Errorf("%v occurs %d times", e, seen[e])
		}
	}
}

// Promise 16.1: the longest programs.
func TestLongest(t *testing.T) {
	l := []api.Ins{input(0)}
	for i := range 65535 {
		l = append(l, two(4+i%2, i, 0))
	}
	v, at, e := evals.Exact(l, nums("1/3"), nil)
	if e != api.OK || at != 0 || len(v) != 65536 || !sameNum(v[65535], num("2/3")) || !sameNum(v[65534], num("1/3")) {
		t.Errorf("%d values, %d, %v", len(v), at, e)
	}
	d, at, e := evals.Float(l, bits(1.5))
	if e != api.OK || at != 0 || len(d) != 65536 || d[65535] != math.Float64bits(3) || d[65534] != math.Float64bits(1.5) {
		t.Errorf("%d doubles, %d, %v", len(d), at, e)
	}
	l = append(l, input(0))
	wantError(t, l, nums("1/3"), nil, 0, api.ErrArg)
	wantFloatError(t, l, bits(1.5), 0, api.ErrArg)
}

// bits are doubles as words, with one word for all that are not a number.
func bits(list ...float64) []uint64 {
	var out []uint64
	for _, f := range list {
		if f != f {
			out = append(out, nan)
		} else {
			out = append(out, math.Float64bits(f))
		}
	}
	return out
}

func wantFloat(t *testing.T, l []api.Ins, in, want []uint64) {
	t.Helper()
	got, at, e := evals.Float(l, in)
	if e != api.OK || at != 0 || !slices.Equal(got, want) {
		t.Errorf("Float(%v) = %x, %d, %v, want %x", l, got, at, e, want)
	}
}

// wantFloatError also says that there are no values beside an error (R2).
func wantFloatError(t *testing.T, l []api.Ins, in []uint64, at int, want api.Errno) {
	t.Helper()
	got, gotAt, e := evals.Float(l, in)
	if e != want || gotAt != at || len(got) != 0 {
		t.Errorf("Float has %d values, %d, %v, want %d, %v", len(got), gotAt, e, at, want)
	}
}

// Promise 16.2, written out: each of the Ops 1 to 10.
func TestFloatExamples(t *testing.T) {
	l := []api.Ins{
		input(0), constant("1/3"), one(3, 0), two(4, 0, 1), two(5, 0, 1), two(5, 1, 0), two(6, 0, 1), two(7, 0, 1), two(7, 1, 0),
		one(8, 0), one(9, 2), one(10, 0), one(8, 2), one(10, 2), two(5, 0, 0), one(3, 14), one(9, 15),
	}
	wantFloat(t, l, []uint64{0x4000000000000000}, []uint64{
		0x4000000000000000, 0x3fd5555555555555, 0xc000000000000000, 0x4002aaaaaaaaaaab, 0x3ffaaaaaaaaaaaab, 0xbffaaaaaaaaaaaab,
		0x3fe5555555555555, 0x4018000000000000, 0x3fc5555555555555,
		0x3ff6a09e667f3bcd, 0x3fc152aaa3bf81cc, 0x3fe62e42fefa39ef, nan, nan, 0, sign, 0x3ff0000000000000,
	})
	wantFloat(t, nil, nil, nil)
	wantFloat(t, []api.Ins{}, []uint64{1}, nil)
}

// Promise 16.2: consts that are rounded once, that are infinite and that are 0, with and without a sign.
func TestFloatConsts(t *testing.T) {
	for _, c := range []struct {
		text string
		want uint64
	}{
		{"0", 0}, {"1", 0x3ff0000000000000}, {"-5/2", 0xc004000000000000}, {"1/10", 0x3fb999999999999a}, {"-1/3", 0xbfd5555555555555},
		{"2^53+1", 0x4340000000000000}, {"2^53+3", 0x4340000000000002}, {"2^1023", 0x7fe0000000000000}, {"2^1024", infinity}, {"-2^1024", infinity | sign},
		{"2^5000", infinity}, {"-2^5000/3", infinity | sign}, {"1/2^1074", 1}, {"-1/2^1074", 1 | sign}, {"1/2^1075", 0}, {"-1/2^1075", sign},
		{"3/2^1075", 2}, {"-1/2^5000", sign}, {"1/2^5000", 0}, {"1/2^1022", normal}, {"2^6000/2^6000-1", 0x3ff0000000000000},
	} {
		wantFloat(t, []api.Ins{constant(c.text)}, nil, []uint64{c.want})
		wantFloat(t, []api.Ins{input(0), constant(c.text), one(3, 1)}, []uint64{3}, []uint64{3, c.want, c.want ^ sign})
	}
}

// Promise 16.2: an input is Clean of its double.
func TestFloatInputs(t *testing.T) {
	for _, b := range doubles() {
		want := b
		if b&^sign > infinity {
			want = nan
		}
		wantFloat(t, []api.Ins{input(1), input(0), input(1)}, []uint64{5, b, 7}, []uint64{want, 5, want})
	}
	l := []api.Ins{constant("1"), input(2), input(0)}
	wantFloatError(t, l, nil, 1, api.ErrIndex)
	wantFloatError(t, l, []uint64{1, 2}, 1, api.ErrIndex)
	wantFloat(t, l, []uint64{1, 2, 3}, []uint64{0x3ff0000000000000, 3, 1})
	wantFloat(t, l, []uint64{1, 2, 3, 4}, []uint64{0x3ff0000000000000, 3, 1})
	wantFloatError(t, []api.Ins{input(0), input(1), input(9)}, []uint64{1}, 1, api.ErrIndex)
	wantFloatError(t, []api.Ins{input(65535)}, make([]uint64, 65535), 0, api.ErrIndex)
	wantFloat(t, []api.Ins{input(65535)}, make([]uint64, 65536), []uint64{0})
}

// Promise 16.2: what is no program, whichever error could come ahead of it.
func TestFloatErrArg(t *testing.T) {
	for _, l := range noPrograms() {
		wantFloatError(t, l, []uint64{1}, 0, api.ErrArg)
		wantFloatError(t, l, nil, 0, api.ErrArg)
	}
	wantFloatError(t, []api.Ins{constant("1"), input(3), {Op: 11}}, nil, 0, api.ErrArg)
}

// doubles are of all kinds, with and without a sign.
func doubles() []uint64 {
	out := []uint64{
		0, 1, 2, normal - 1, normal, normal + 1, greatest, infinity, infinity + 1, 0x7ff7ffffffffffff, nan, nan + 1, 0x7fffffffffffffff,
	}
	out = append(out, bits(1, 2, 3, 0.5, 1.5, 0.1, 1.0/3, 710, 746, 1e-300, 1e300, 1e16, math.Pi)...)
	for _, b := range slices.Clone(out) {
		out = append(out, b|sign)
	}
	return out
}

// clean is a double that has one word if it is not a number.
func clean(b uint64) uint64 {
	return bits(math.Float64frombits(b))[0]
}

// oracleFloat is Float of a program and enough inputs, by the machine's own doubles, except for exp and log, which are defined by their operations.
func oracleFloat(l []api.Ins, in []uint64) []uint64 {
	var vals []uint64
	for _, x := range l {
		var a, b float64
		if x.Op > 2 {
			a, b = math.Float64frombits(vals[x.A]), math.Float64frombits(vals[x.B])
		}
		v := 0.0
		switch x.Op {
		case 1:
			v = math.Float64frombits(in[x.A])
		case 2:
			v, _ = value(x.Num).Float64()
		case 3:
			v = -a
		case 4:
			v = a + b
		case 5:
			v = a - b
		case 6:
			v = a * b
		case 7:
			v = a / b
		case 8:
			v = math.Sqrt(a)
		case 9:
			v = math.Float64frombits(kernel.Exp(vals[x.A]))
		case 10:
			v = math.Float64frombits(kernel.Log(vals[x.A]))
		}
		vals = append(vals, bits(v)...)
	}
	return vals
}

// Promise 16.2: each Op with doubles of all kinds.
func TestFloatEachOp(t *testing.T) {
	l := []api.Ins{input(0), input(1), one(3, 0), two(4, 0, 1), two(5, 0, 1), two(6, 0, 1), two(7, 0, 1), one(8, 0), one(9, 0), one(10, 0), two(4, 0, 0), two(5, 0, 0), two(6, 0, 0), two(7, 0, 0)}
	for _, a := range doubles() {
		for _, b := range doubles() {
			wantFloat(t, l, []uint64{a, b}, oracleFloat(l, []uint64{a, b}))
			if got, _, _ := evals.Float(l, []uint64{a, b}); clean(a) != nan && got[2] != a^sign {
				t.Errorf("-(%x) = %x", a, got[2])
			}
		}
	}
}

// Promise 16.2, for programs of each Op in any order: no product is added without being rounded (R10), and no value is an error.
func TestFloatRandom(t *testing.T) {
	r := rand.New(rand.NewSource(2))
	for range 3000 {
		l := randomProgram(r, 1+r.Intn(30), 4, true)
		in := make([]uint64, 4)
		for i := range in {
			in[i] = r.Uint64()
			if r.Intn(2) == 0 {
				in[i] = bits(r.NormFloat64())[0]
			} else if r.Intn(4) == 0 {
				in[i] = doubles()[r.Intn(len(doubles()))]
			}
		}
		wantFloat(t, l, in, oracleFloat(l, in))
	}
}

// outputs are some numbers, most of them of instructions.
func outputs(r *rand.Rand, n int) []int {
	var outs []int
	for range 1 + r.Intn(3) {
		outs = append(outs, r.Intn(n+2)-1)
	}
	return outs
}

// Promise 16.3, exactly.
func TestTrimmedExact(t *testing.T) {
	r := rand.New(rand.NewSource(3))
	shorter := 0
	for range 3000 {
		l := randomProgram(r, 1+r.Intn(14), 3, false)
		in, outs := randomNums(r, 3), outputs(r, len(l))
		all, _, e := evals.Exact(l, in, nil)
		if e != api.OK {
			continue
		}
		p, at := line.Trim(l, outs)
		some, where, e := evals.Exact(p, in, nil)
		if e != api.OK || where != 0 || len(some) != len(p) {
			t.Fatalf("trimmed, %v has %d values, %d, %v", l, len(some), where, e)
		}
		for k, out := range outs {
			if out >= 0 && out < len(l) && !sameNum(all[out], some[at[k]]) {
				t.Fatalf("instruction %d of %v is %v, and trimmed %v", out, l, all[out], some[at[k]])
			}
		}
		if len(p) < len(l) {
			shorter++
		}
	}
	if shorter < 500 {
		t.Errorf("only %d programs become shorter", shorter)
	}
}

// Promise 16.3, with doubles, where forms are computed too.
func TestTrimmedFloat(t *testing.T) {
	r := rand.New(rand.NewSource(4))
	for range 3000 {
		l := randomProgram(r, 1+r.Intn(20), 3, true)
		in, outs := []uint64{r.Uint64(), bits(r.NormFloat64())[0], bits(r.ExpFloat64())[0]}, outputs(r, len(l))
		all, _, e := evals.Float(l, in)
		p, at := line.Trim(l, outs)
		some, _, e2 := evals.Float(p, in)
		if e != api.OK || e2 != api.OK {
			t.Fatal(e, e2)
		}
		for k, out := range outs {
			if out >= 0 && out < len(l) && all[out] != some[at[k]] {
				t.Fatalf("instruction %d of %v is %x, and trimmed %x", out, l, all[out], some[at[k]])
			}
		}
	}
}

// copyNum is a number in memory of its own, with what is behind the ends of its lists.
func copyNum(x api.Rat) api.Rat {
	return api.Rat{Neg: x.Neg, Num: slices.Clone(x.Num[:cap(x.Num)]), Den: slices.Clone(x.Den[:cap(x.Den)])}
}

func copyNums(list []api.Rat) []api.Rat {
	var out []api.Rat
	for _, x := range list[:cap(list)] {
		out = append(out, copyNum(x))
	}
	return out
}

func copyProgram(l []api.Ins) []api.Ins {
	out := slices.Clone(l[:cap(l)])
	for i := range out {
		out[i].Num = copyNum(out[i].Num)
	}
	return out
}

// parts are the lists of numbers.
func parts(list []api.Rat) [][]uint64 {
	var out [][]uint64
	for _, x := range list {
		out = append(out, x.Num, x.Den)
	}
	return out
}

func overwrite(a []uint64) {
	for i := range a[:cap(a)] {
		a[:cap(a)][i] ^= top
	}
}

// R4: no function changes its arguments, or the capacity behind them, and results are new memory.
func TestArgumentsAndResultsAreApart(t *testing.T) {
	r := rand.New(rand.NewSource(5))
	for range 300 {
		l := withSpare(randomProgram(r, 2+r.Intn(12), 3, true), constant("77"))
		in, forms := withSpare(randomNums(r, 3), num("55")), withSpare(randomNums(r, 14), num("66"))
		l0, in0, forms0 := copyProgram(l), copyNums(in), copyNums(forms)
		check := func(what string) {
			t.Helper()
			if !sameProgram(copyProgram(l), l0) || !sameNums(copyNums(in), in0) || !sameNums(copyNums(forms), forms0) {
				t.Fatalf("%s changed the arguments", what)
			}
		}
		got, _, e := evals.Exact(l, in, forms)
		again, _, _ := evals.Exact(l, in, forms)
		check("Exact")
		want, _, _ := oracle(l, in, forms)
		for _, a := range parts(got) {
			overwrite(a)
		}
		check("overwriting the result")
		for _, a := range append(parts(in), parts(forms)...) {
			overwrite(a)
		}
		for _, x := range l {
			overwrite(x.Num.Num)
			overwrite(x.Num.Den)
		}
		if e == api.OK && !sameNums(again, want) {
			t.Fatal("a result changed with the arguments, or with another result")
		}
	}
}

// R4: no two lists of a result are one, even where an element or a list of the arguments is used several times.
func TestListsOfOneResultAreApart(t *testing.T) {
	shared := []uint64{5, 1}
	five, unit := api.Rat{Num: shared[:1], Den: shared[1:]}, api.Rat{Num: shared[1:], Den: shared[1:]}
	l := []api.Ins{input(0), input(0), input(1), {Op: 2, Num: five}, {Op: 2, Num: five}, one(8, 0), one(9, 0), one(3, 0), two(6, 0, 2), two(7, 0, 2)}
	v, _, e := evals.Exact(l, []api.Rat{five, unit}, []api.Rat{five, five})
	if e != api.OK || !sameNums(v, nums("5", "5", "1", "5", "5", "5", "5", "-5", "5", "5")) {
		t.Fatal(v, e)
	}
	for i, a := range parts(v) {
		for k := range a[:cap(a)] {
			a[:cap(a)][k] = uint64(100 + i)
		}
	}
	for i, a := range parts(v) {
		if len(a) != 1 || a[0] != uint64(100+i) {
			t.Errorf("list %d is %v", i, a)
		}
	}
	if !slices.Equal(shared, []uint64{5, 1}) {
		t.Errorf("the argument is %v", shared)
	}
}

// R4: Float leaves its arguments alone, and its result is new memory.
func TestFloatIsApart(t *testing.T) {
	r := rand.New(rand.NewSource(6))
	for range 300 {
		l := withSpare(randomProgram(r, 2+r.Intn(12), 3, true), constant("77"))
		in := withSpare([]uint64{r.Uint64(), r.Uint64(), nan + 1}, 9)
		l0, in0 := copyProgram(l), slices.Clone(in[:cap(in)])
		got, _, _ := evals.Float(l, in)
		again, _, _ := evals.Float(l, in)
		want := slices.Clone(got)
		overwrite(got)
		if !sameProgram(copyProgram(l), l0) || !slices.Equal(in[:cap(in)], in0) {
			t.Fatal("the arguments changed")
		}
		overwrite(in)
		if !slices.Equal(again, want) {
			t.Fatal("a result changed with the arguments, or with another result")
		}
	}
}

// Promise 16.1: the limit is the one that the document names.
func TestMost(t *testing.T) {
	if evals.Most != 4096 {
		t.Error(evals.Most)
	}
}
