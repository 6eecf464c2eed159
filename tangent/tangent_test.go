package tangent_test

import (
	"math"
	"math/big"
	"math/rand"
	"slices"
	"strings"
	"testing"

	"gradine/api"
	"gradine/evals"
	"gradine/tangent"
)

const top = 1<<64 - 1

// withSpare is a copy of a list with capacity behind it that a function could overwrite.
func withSpare[T any](a []T, spare T) []T {
	b := slices.Clone(a)
	for range 4 {
		b = append(b, spare)
	}
	return b[:len(a)]
}

// list is the normalized list of a number without its sign.
func list(n *big.Int) []uint64 {
	var a []uint64
	for _, w := range n.Bits() {
		a = append(a, uint64(w))
	}
	return withSpare(a, 0x5ca1ab1e)
}

// exact is the valid number of a value, by a way that does not use the program.
func exact(v *big.Rat) api.Rat {
	return api.Rat{Neg: v.Sign() < 0, Num: list(v.Num()), Den: list(v.Denom())}
}

func exacts(vals []*big.Rat) []api.Rat {
	var out []api.Rat
	for _, v := range vals {
		out = append(out, exact(v))
	}
	return out
}

// value is the value of a number, by a way that does not use the program.
func value(x api.Rat) *big.Rat {
	whole := func(a []uint64) *big.Int {
		n := new(big.Int)
		for _, w := range slices.Backward(a) {
			n.Add(n.Lsh(n, 64), new(big.Int).SetUint64(w))
		}
		return n
	}
	v := new(big.Rat).SetFrac(whole(x.Num), whole(x.Den))
	if x.Neg {
		v.Neg(v)
	}
	return v
}

// num is the exact number of a text: an integer as whole reads it, and optionally / and another one.
func num(s string) api.Rat {
	above, below, _ := strings.Cut(s, "/")
	v := new(big.Rat).SetFrac(whole(above), big.NewInt(1))
	if below != "" {
		v.Quo(v, new(big.Rat).SetInt(whole(below)))
	}
	return exact(v)
}

// whole is the integer of a text: digits, or a power of 2 as 2^n with + or - and digits behind it; a - ahead negates all of it.
func whole(s string) *big.Int {
	rest, neg := strings.CutPrefix(s, "-")
	n := new(big.Int)
	if exponent, ok := strings.CutPrefix(rest, "2^"); ok {
		at := strings.IndexAny(exponent+"+", "+-")
		n.Lsh(big.NewInt(1), uint(whole(exponent[:at]).Int64()))
		if at < len(exponent) {
			n.Add(n, whole(strings.TrimPrefix(exponent[at:], "+")))
		}
	} else if _, ok := n.SetString(rest, 10); !ok {
		panic(s)
	}
	if neg {
		n.Neg(n)
	}
	return n
}

// nums are the exact numbers of some texts.
func nums(texts ...string) []api.Rat {
	var out []api.Rat
	for _, s := range texts {
		out = append(out, num(s))
	}
	return out
}

func input(n int) api.Ins {
	return api.Ins{Op: 1, A: n}
}

func constant(s string) api.Ins {
	return api.Ins{Op: 2, Num: num(s)}
}

func one(op, a int) api.Ins {
	return api.Ins{Op: op, A: a}
}

func two(op, a, b int) api.Ins {
	return api.Ins{Op: op, A: a, B: b}
}

// badNums are no valid exact numbers.
func badNums() []api.Rat {
	return []api.Rat{
		{}, {Neg: true}, {Num: []uint64{}, Den: []uint64{}}, {Num: []uint64{1}}, {Num: []uint64{1}, Den: []uint64{0}},
		{Num: []uint64{2}, Den: []uint64{4}}, {Num: []uint64{0}, Den: []uint64{1}}, {Neg: true, Den: []uint64{1}},
		{Num: []uint64{1, 0}, Den: []uint64{1}}, {Num: []uint64{1}, Den: []uint64{1, 0}}, {Num: []uint64{0, 3}, Den: []uint64{0, 2}},
	}
}

// noPrograms are instructions that are no program.
func noPrograms() [][]api.Ins {
	return [][]api.Ins{
		{{}}, {{Op: 11}}, {input(-1)}, {input(65536)}, {one(3, 0)}, {input(0), one(8, 1)}, {input(0), two(4, 0, 1)}, {input(0), two(7, -1, 0)},
		{input(0), two(9, 0, 1)}, {input(9), {Op: 2}}, {input(0), {Op: 3, Num: num("0")}}, {input(0), constant("0"), two(7, 0, 1), {Op: 12}}, make([]api.Ins, 65537),
	}
}

// farOut are numbers that are no instruction of any program.
func farOut() []int {
	return []int{math.MinInt, math.MinInt + 1, -1 << 32, -65536, -1, 65536, 65537, 1 << 32, 1<<32 + 1, math.MaxInt - 1, math.MaxInt}
}

func sameNum(a, b api.Rat) bool {
	return a.Neg == b.Neg && slices.Equal(a.Num, b.Num) && slices.Equal(a.Den, b.Den)
}

func sameNums(a, b []api.Rat) bool {
	return slices.EqualFunc(a, b, sameNum)
}

func sameProgram(a, b []api.Ins) bool {
	return slices.EqualFunc(a, b, func(x, y api.Ins) bool {
		return x.Op == y.Op && x.A == y.A && x.B == y.B && sameNum(x.Num, y.Num)
	})
}

// wantOf also says that results are valid, as each has only one valid form, and that the values are those of Exact.
func wantOf(t *testing.T, l []api.Ins, in, dirs, forms, want []api.Rat) {
	t.Helper()
	vals, tans, at, e := tangent.Of(l, in, dirs, forms)
	if e != api.OK || at != 0 || !sameNums(tans, want) {
		t.Errorf("Of has the tangents %v, %d, %v, want %v", tans, at, e, want)
	}
	all, _, e := evals.Exact(l, in, forms)
	if e != api.OK || !sameNums(vals, all) {
		t.Errorf("Of has the values %v, want %v, %v", vals, all, e)
	}
}

// wantOfError also says that there are no values and no tangents beside an error (R2).
func wantOfError(t *testing.T, l []api.Ins, in, dirs, forms []api.Rat, at int, want api.Errno) {
	t.Helper()
	vals, tans, gotAt, e := tangent.Of(l, in, dirs, forms)
	if e != want || gotAt != at || len(vals) != 0 || len(tans) != 0 {
		t.Errorf("Of has %d values, %d tangents, %d, %v, want %d, %v", len(vals), len(tans), gotAt, e, at, want)
	}
}

func wantBack(t *testing.T, l []api.Ins, in, forms []api.Rat, outs []int, cots, want []api.Rat) {
	t.Helper()
	got, at, e := tangent.Back(l, in, forms, outs, cots)
	if e != api.OK || at != 0 || !sameNums(got, want) {
		t.Errorf("Back(%v, %v) = %v, %d, %v, want %v", outs, cots, got, at, e, want)
	}
}

// wantBackError also says that there are no results beside an error (R2).
func wantBackError(t *testing.T, l []api.Ins, in, forms []api.Rat, outs []int, cots []api.Rat, at int, want api.Errno) {
	t.Helper()
	got, gotAt, e := tangent.Back(l, in, forms, outs, cots)
	if e != want || gotAt != at || len(got) != 0 {
		t.Errorf("Back(%v) has %d results, %d, %v, want %d, %v", outs, len(got), gotAt, e, at, want)
	}
}

// Promises 17.1 and 17.2: the document's example.
func TestExample(t *testing.T) {
	l := []api.Ins{input(0), two(6, 0, 0)}
	vals, tans, at, e := tangent.Of(l, nums("3"), nums("1"), nil)
	if e != api.OK || at != 0 || !sameNums(vals, nums("3", "9")) || !sameNums(tans, nums("1", "6")) {
		t.Error(vals, tans, at, e)
	}
	wantBack(t, l, nums("3"), nil, []int{1}, nums("1"), nums("6"))
}

// Promises 17.1 and 17.2, written out: each of the Ops 1 to 10 alone, with two operands and with one operand twice.
func TestEachOp(t *testing.T) {
	for _, c := range []struct {
		x       api.Ins
		tangent string
		back    []string
	}{
		{input(0), "2", []string{"7", "0"}},
		{input(1), "3", []string{"0", "7"}},
		{constant("4/9"), "0", []string{"0", "0"}},
		{one(3, 0), "-2", []string{"-7", "0"}},
		{two(4, 0, 1), "5", []string{"7", "7"}},
		{two(5, 0, 1), "-1", []string{"7", "-7"}},
		{two(5, 1, 0), "1", []string{"-7", "7"}},
		{two(6, 0, 1), "4", []string{"-7/2", "35/3"}},
		{two(6, 1, 0), "4", []string{"-7/2", "35/3"}},
		{two(7, 0, 1), "-24", []string{"-14", "-140/3"}},
		{two(7, 1, 0), "54/25", []string{"63/50", "21/5"}},
		{one(8, 0), "1/11", []string{"7/22", "0"}},
		{one(9, 0), "22", []string{"77", "0"}},
		{one(10, 0), "6/5", []string{"21/5", "0"}},
		{one(8, 1), "3/22", []string{"0", "7/22"}},
		{one(9, 1), "33", []string{"0", "77"}},
		{one(10, 1), "-6", []string{"0", "-14"}},
		{two(4, 0, 0), "4", []string{"14", "0"}},
		{two(5, 0, 0), "0", []string{"0", "0"}},
		{two(6, 0, 0), "20/3", []string{"70/3", "0"}},
		{two(7, 0, 0), "0", []string{"0", "0"}},
	} {
		l := []api.Ins{input(0), input(1), c.x}
		wantOf(t, l, nums("5/3", "-1/2"), nums("2", "3"), nums("11"), nums("2", "3", c.tangent))
		wantBack(t, l, nums("5/3", "-1/2"), nums("11"), []int{2}, nums("7"), nums(c.back...))
	}
}

// Promises 17.1 and 17.2, written out: operands that several instructions use, and instructions that nothing depends on.
func TestSharedOperands(t *testing.T) {
	l := []api.Ins{input(0), constant("3"), two(6, 0, 1), two(6, 2, 0), two(4, 3, 2), one(3, 0), two(5, 4, 0), two(6, 6, 6)}
	// With x: 3x, 3x^2, 3x^2 + 3x, -x, 3x^2 + 2x, and the square of that, at x = 2.
	in := nums("2")
	wantOf(t, l, in, nums("1"), nil, nums("1", "0", "3", "12", "15", "-1", "14", "448"))
	wantOf(t, l, in, nums("-1/2"), nil, nums("-1/2", "0", "-3/2", "-6", "-15/2", "1/2", "-7", "-224"))
	wantOf(t, l, in, nums("0"), nil, nums("0", "0", "0", "0", "0", "0", "0", "0"))
	for i, want := range []string{"1", "0", "3", "12", "15", "-1", "14", "448"} {
		wantBack(t, l, in, nil, []int{i}, nums("1"), nums(want))
	}
	wantBack(t, l, in, nil, []int{7}, nums("-1/7"), nums("-64"))
}

// Promises 17.1 and 17.2, written out: forms take the elements of forms in order, whatever these are, and what comes behind them follows.
func TestForms(t *testing.T) {
	l := []api.Ins{input(0), one(10, 0), one(8, 0), one(9, 1), two(6, 2, 3), one(8, 4)}
	in, forms := nums("-4"), nums("5", "-1/2", "0", "3")
	wantOf(t, l, in, nums("8"), forms, nums("8", "-2", "-8", "0", "0", "0"))
	wantBack(t, l, in, forms, []int{5}, nums("6"), nums("0"))
	wantBack(t, l, in, forms, []int{4}, nums("6"), nums("0"))
	forms = nums("5", "-1/2", "2", "3", "9")
	wantOf(t, l, in, nums("8"), forms, nums("8", "-2", "-8", "-4", "-14", "-7/3"))
	wantBack(t, l, in, forms, []int{5}, nums("6"), nums("-7/4"))
	// What a form's value is says nothing about its operand.
	wantOf(t, []api.Ins{input(0), one(8, 0)}, nums("0"), nums("6"), nums("-3"), nums("6", "-1"))
	wantBack(t, []api.Ins{input(0), one(8, 0)}, nums("0"), nums("-3"), []int{1}, nums("6"), nums("-1"))
	wantOf(t, []api.Ins{input(0), one(10, 0)}, nums("3"), nums("6"), nums("0"), nums("6", "2"))
	wantBack(t, []api.Ins{input(0), one(10, 0)}, nums("3"), nums("0"), []int{1}, nums("6"), nums("2"))
	wantOf(t, []api.Ins{input(0), one(9, 0)}, nums("0"), nums("6"), nums("0"), nums("6", "0"))
	wantBack(t, []api.Ins{input(0), one(9, 0)}, nums("0"), nums("0"), []int{1}, nums("6"), nums("0"))
}

// Promises 17.1 and 17.2: no instructions, no inputs, inputs with gaps, out of order and repeated, and more elements than inputs.
func TestInputs(t *testing.T) {
	wantOf(t, nil, nil, nil, nil, nil)
	wantOf(t, []api.Ins{}, nums("1"), nums("2"), nums("3"), nil)
	wantBack(t, nil, nil, nil, nil, nil, nil)
	wantBack(t, []api.Ins{}, nums("1"), nums("3"), []int{}, []api.Rat{}, nil)
	l := []api.Ins{constant("3"), two(6, 0, 0)}
	wantOf(t, l, nil, nil, nil, nums("0", "0"))
	wantOf(t, l, nums("1", "2"), nums("5", "6"), nil, nums("0", "0"))
	wantBack(t, l, nil, nil, []int{1, 0}, nums("1", "2"), nil)
	wantBack(t, l, nums("1", "2"), nil, []int{1, 0}, nums("1", "2"), nil)
	l = []api.Ins{input(4), input(1), two(5, 0, 1), input(4), two(6, 2, 3)}
	in, dirs := nums("10", "11", "12", "13", "14", "15"), nums("20", "21", "22", "23", "24", "25")
	wantOf(t, l, in, dirs, nil, nums("24", "21", "3", "24", "114"))
	wantBack(t, l, in, nil, []int{4}, nums("1"), nums("0", "-14", "0", "0", "17"))
	wantBack(t, l, in[:5], nil, []int{3, 0}, nums("1", "5"), nums("0", "0", "0", "0", "6"))
	wantBack(t, l, in[:5], nil, nil, nil, nums("0", "0", "0", "0", "0"))
	many := make([]api.Rat, 65536)
	for i := range many {
		many[i] = num("2")
	}
	got, at, e := tangent.Back([]api.Ins{input(65535)}, many, nil, []int{0}, nums("5"))
	if e != api.OK || at != 0 || len(got) != 65536 || !sameNum(got[65535], num("5")) || !sameNum(got[0], num("0")) || !sameNum(got[65534], num("0")) {
		t.Errorf("%d results, %d, %v", len(got), at, e)
	}
}

// Promise 17.1: lists of different lengths and elements that are not valid, whichever error could come ahead of them.
func TestOfErrArg(t *testing.T) {
	good := []api.Ins{constant("7"), input(1)}
	// Alone, these would return ErrIndex, ErrInexact, ErrZero, ErrZero for a tangent, and ErrBig.
	others := [][]api.Ins{good, nil, {constant("1"), input(9)}, {constant("1"), one(8, 0)}, {constant("0"), two(7, 0, 0)}, {constant("1"), input(2), one(10, 1)}, {constant("1"), constant("2^4096")}}
	in := nums("1", "2", "0")
	for _, l := range append(noPrograms(), others...) {
		for _, dirs := range [][]api.Rat{nil, nums("1"), nums("1", "2"), nums("1", "2", "3", "4")} {
			wantOfError(t, l, in, dirs, nil, 0, api.ErrArg)
			wantOfError(t, l, dirs, in, nil, 0, api.ErrArg)
		}
		for _, bad := range badNums() {
			for i := range 3 {
				dirs := nums("1", "2", "3")
				dirs[i] = bad
				wantOfError(t, l, in, dirs, nil, 0, api.ErrArg)
			}
		}
	}
	wantOf(t, good, in, nums("1", "2", "3"), nil, nums("0", "2"))
}

// Promise 17.2: lists of different lengths and elements that are not valid, whichever error could come ahead of them.
func TestBackErrArg(t *testing.T) {
	good := []api.Ins{constant("7"), input(1)}
	others := [][]api.Ins{good, nil, {constant("1"), input(9)}, {constant("1"), one(8, 0)}, {constant("0"), two(7, 0, 0)}, {constant("1"), input(2), one(10, 1)}, {constant("1"), constant("2^4096")}}
	in := nums("1", "2", "0")
	for _, l := range append(noPrograms(), others...) {
		for _, outs := range [][]int{{0, 0, 0}, {1, 0, 1}, {-1, 2, 65536}} {
			for _, cots := range [][]api.Rat{nil, nums("1"), nums("1", "2"), nums("1", "2", "3", "4")} {
				wantBackError(t, l, in, nil, outs, cots, 0, api.ErrArg)
			}
			for _, bad := range badNums() {
				for i := range 3 {
					cots := nums("1", "2", "3")
					cots[i] = bad
					wantBackError(t, l, in, nil, outs, cots, 0, api.ErrArg)
				}
			}
		}
		wantBackError(t, l, in, nil, nil, nums("1"), 0, api.ErrArg)
		wantBackError(t, l, in, nil, []int{0}, nil, 0, api.ErrArg)
	}
	wantBack(t, good, in, nil, []int{1, 0, 1}, nums("1", "2", "3"), nums("0", "4"))
}

// exactErrors are programs for which Exact returns an error if the only input is 0, with the number of the instruction; ahead of it, a sqrt or a log divides by 0 in both directions.
func exactErrors() []struct {
	l  []api.Ins
	at int
	e  api.Errno
} {
	return []struct {
		l  []api.Ins
		at int
		e  api.Errno
	}{
		{[]api.Ins{input(1)}, 0, api.ErrIndex},
		{[]api.Ins{input(0), one(8, 0), input(1), one(10, 0)}, 2, api.ErrIndex},
		{[]api.Ins{input(0), one(10, 0), two(7, 0, 0), one(8, 1)}, 2, api.ErrZero},
		{[]api.Ins{input(0), one(8, 0), two(7, 1, 0)}, 2, api.ErrZero},
		{[]api.Ins{input(0), one(8, 0), one(9, 1), one(10, 2)}, 3, api.ErrInexact},
		{[]api.Ins{input(0), one(8, 0), one(9, 1), constant("2^4096")}, 3, api.ErrBig},
		{[]api.Ins{constant("2^4096"), input(0), one(10, 1)}, 0, api.ErrBig},
	}
}

// Promises 17.1 and 17.2: the errors of Exact, with their numbers, ahead of those of tangents, outs and adjoints.
func TestErrorsOfExact(t *testing.T) {
	for _, c := range exactErrors() {
		for _, dir := range []string{"0", "1", "2^4096"} {
			wantOfError(t, c.l, nums("0"), nums(dir), nums("0", "0"), c.at, c.e)
			for _, out := range append(farOut(), 0, 1, 2, len(c.l)-1, len(c.l)) {
				wantBackError(t, c.l, nums("0"), nums("0", "0"), []int{out}, nums(dir), c.at, c.e)
			}
			wantBackError(t, c.l, nums("0"), nums("0", "0"), []int{}, nil, c.at, c.e)
		}
	}
	for _, l := range noPrograms() {
		wantOfError(t, l, nums("1"), nums("2"), nums("3"), 0, api.ErrArg)
		wantOfError(t, l, nil, nil, nil, 0, api.ErrArg)
		for _, out := range append(farOut(), 0, 1) {
			wantBackError(t, l, nums("1"), nums("3"), []int{out}, nums("1"), 0, api.ErrArg)
		}
	}
	for _, bad := range badNums() {
		wantOfError(t, []api.Ins{constant("1"), input(5)}, []api.Rat{bad}, nums("1"), nil, 0, api.ErrArg)
		wantOfError(t, []api.Ins{constant("1"), input(5)}, nums("1"), nums("1"), []api.Rat{bad}, 0, api.ErrArg)
		wantBackError(t, []api.Ins{constant("1"), input(5)}, []api.Rat{bad}, nil, []int{7}, nums("1"), 0, api.ErrArg)
		wantBackError(t, []api.Ins{constant("1"), input(5)}, nums("1"), []api.Rat{bad}, []int{7}, nums("1"), 0, api.ErrArg)
	}
}

// Promise 17.1: a division by 0 at a first, a middle and the last operation, also where the tangent that is divided is 0.
func TestOfDivisionByZero(t *testing.T) {
	for _, dir := range []string{"0", "1", "-2/3"} {
		for _, op := range []int{8, 10} {
			// The operand of the log, and the value of the sqrt, is 0; that of the other one is not asked about.
			in, forms := nums("0"), nums("0", "5")
			wantOfError(t, []api.Ins{input(0), one(op, 0)}, in, nums(dir), forms, 1, api.ErrZero)
			wantOfError(t, []api.Ins{input(0), one(op, 0), one(3, 1), one(9, 2)}, in, nums(dir), forms, 1, api.ErrZero)
			wantOfError(t, []api.Ins{input(0), one(3, 0), two(4, 0, 1), one(op, 2), one(3, 3)}, in, nums(dir), forms, 3, api.ErrZero)
			wantOfError(t, []api.Ins{input(0), one(3, 0), two(4, 0, 1), one(op, 2)}, in, nums(dir), forms, 3, api.ErrZero)
			wantOfError(t, []api.Ins{constant("0"), one(op, 0)}, in, nums(dir), forms, 1, api.ErrZero)
			wantOfError(t, []api.Ins{input(0), one(op, 0), one(op, 0)}, in, nums(dir), nums("0", "0"), 1, api.ErrZero)
		}
		// The second sqrt is 0.
		wantOfError(t, []api.Ins{constant("1"), one(8, 0), one(8, 1)}, nums("1"), nums(dir), nums("1", "0"), 2, api.ErrZero)
		wantOfError(t, []api.Ins{constant("1"), one(9, 0), one(10, 1)}, nums("1"), nums(dir), nums("0", "1"), 2, api.ErrZero)
		// An exp of 0, and that is 0, divides by nothing.
		wantOf(t, []api.Ins{constant("0"), one(9, 0)}, nums("1"), nums(dir), nums("0"), nums("0", "0"))
	}
}

// Promise 17.2: a division by 0 at a first, a middle and the last operation, also where the adjoint that is divided is 0.
func TestBackDivisionByZero(t *testing.T) {
	in, forms := nums("0"), nums("0", "0", "0")
	for _, op := range []int{8, 10} {
		l := []api.Ins{input(0), constant("0"), one(op, 1), one(3, 0), two(5, 0, 3), one(3, 4)}
		for out := range l {
			for _, cot := range []string{"0", "1", "-2/3"} {
				wantBackError(t, l, in, forms, []int{out}, nums(cot), 2, api.ErrZero)
				wantBackError(t, l[:3], in, forms, []int{out % 3}, nums(cot), 2, api.ErrZero)
				wantBackError(t, []api.Ins{constant("0"), one(op, 0)}, in, forms, []int{out % 2}, nums(cot), 1, api.ErrZero)
				// From the last instruction on, number 4 comes ahead of number 2.
				wantBackError(t, append(slices.Clone(l[:4]), one(op, 3), one(3, 0)), in, forms, []int{out}, nums(cot), 4, api.ErrZero)
				wantBackError(t, append(slices.Clone(l[:5]), one(op, 4)), in, forms, []int{out}, nums(cot), 5, api.ErrZero)
			}
		}
		wantBackError(t, l, in, forms, nil, nil, 2, api.ErrZero)
		wantBackError(t, []api.Ins{constant("0"), one(op, 0)}, nil, forms, []int{}, []api.Rat{}, 1, api.ErrZero)
	}
	wantBack(t, []api.Ins{input(0), one(9, 0)}, in, forms, []int{1}, nums("3"), nums("0"))
}

// longest are numbers of exactly 4096 bits, above and below the line.
func longest() []string {
	return []string{"2^4096-1", "-2^4096-1", "2^4095", "-2^4095", "1/2^4096-1", "-1/2^4095", "2^4096-1/2^4095", "2^4095/2^4096-1", "-3/2^4095"}
}

// tooLong are numbers of 4097 bits and more, above and below the line.
func tooLong() []string {
	return []string{"2^4096", "-2^4096", "2^4096+1", "1/2^4096", "-1/2^4096+1", "3/2^4096", "2^4096/3", "2^4097-1", "2^9000", "1/2^9000", "2^4095/2^4096+1"}
}

// Promise 17.1: tangents of exactly 4096 bits and of more, at a first, a middle and the last instruction.
func TestOfMostBits(t *testing.T) {
	l := []api.Ins{constant("1"), input(1), one(3, 1), input(0), one(3, 3)}
	for _, s := range longest() {
		minus := strings.TrimPrefix("-"+s, "--")
		wantOf(t, l, nums("1", "1"), nums("3", s), nil, nums("0", s, minus, "3", "-3"))
		wantOf(t, l, nums("1", "1"), nums(s, "3"), nil, nums("0", "3", "-3", s, minus))
		wantOf(t, []api.Ins{input(0)}, nums("1"), nums(s), nil, nums(s))
	}
	for _, s := range tooLong() {
		wantOfError(t, l, nums("1", "1"), nums("3", s), nil, 1, api.ErrBig)
		wantOfError(t, l, nums("1", "1"), nums(s, "3"), nil, 3, api.ErrBig)
		wantOfError(t, []api.Ins{input(0)}, nums("1"), nums(s), nil, 0, api.ErrBig)
		wantOfError(t, []api.Ins{constant("1"), input(0)}, nums("1"), nums(s), nil, 1, api.ErrBig)
		// The direction of what is no input of the program is no tangent.
		wantOf(t, []api.Ins{input(1)}, nums("1", "1", "1"), nums(s, "2", s), nil, nums("2"))
	}
}

// Promise 17.1: tangents that an operation makes exactly 4096 bits long, or 4097, where the operands' tangents are short enough.
func TestOfMostBitsOfEachOp(t *testing.T) {
	for _, c := range []struct {
		x        api.Ins
		in, dirs []api.Rat
		form     string
		want     string // "" if it is too long
	}{
		{two(4, 0, 1), nums("1", "1"), nums("2^4095", "2^4095-1"), "1", "2^4096-1"},
		{two(4, 0, 1), nums("1", "1"), nums("2^4095", "2^4095"), "1", ""},
		{two(4, 0, 1), nums("1", "1"), nums("1/2^4095", "1/3"), "1", ""},
		{two(5, 0, 1), nums("1", "1"), nums("-2^4095", "2^4095-1"), "1", "-2^4096-1"},
		{two(5, 0, 1), nums("1", "1"), nums("2^4095", "-2^4095"), "1", ""},
		{two(6, 0, 1), nums("2", "2"), nums("2^4094-1", "1"), "1", "2^4095"},
		{two(6, 0, 1), nums("2", "2"), nums("2^4094", "2^4094"), "1", ""},
		{two(6, 0, 1), nums("1", "2^2048"), nums("2^2047", "0"), "1", "2^4095"},
		{two(6, 0, 1), nums("1", "2^2048"), nums("2^2048", "0"), "1", ""},
		{two(6, 0, 1), nums("2^2047", "-2^2047"), nums("2^4095", "2^4095"), "1", "0"},
		{two(7, 0, 1), nums("0", "1/2^2048"), nums("2^2047", "0"), "1", "2^4095"},
		{two(7, 0, 1), nums("0", "1/2^2048"), nums("2^2048", "0"), "1", ""},
		{two(7, 0, 1), nums("1", "2"), nums("0", "2^4095"), "1", "-2^4093"},
		{one(8, 0), nums("1", "1"), nums("1", "0"), "2^4094", "1/2^4095"},
		{one(8, 0), nums("1", "1"), nums("1", "0"), "2^4095", ""},
		{one(8, 0), nums("1", "1"), nums("2^4095", "0"), "1/4", ""},
		{one(8, 0), nums("1", "1"), nums("2^4094", "0"), "1/4", "2^4095"},
		{one(9, 0), nums("1", "1"), nums("2^2047", "0"), "2^2048", "2^4095"},
		{one(9, 0), nums("1", "1"), nums("2^2048", "0"), "2^2048", ""},
		{one(10, 0), nums("2^2048", "1"), nums("1/2^2047", "0"), "1", "1/2^4095"},
		{one(10, 0), nums("2^2048", "1"), nums("1/2^2048", "0"), "1", ""},
	} {
		l := []api.Ins{input(0), input(1), c.x}
		forms := nums(c.form)
		if c.want == "" {
			wantOfError(t, l, c.in, c.dirs, forms, 2, api.ErrBig)
			wantOfError(t, append(l, constant("0"), one(10, 3)), c.in, c.dirs, nums(c.form, "1"), 2, api.ErrBig)
			continue
		}
		wantOf(t, l, c.in, c.dirs, forms, append(slices.Clone(c.dirs), num(c.want)))
	}
}

// Promise 17.1: of several errors, that of the first instruction.
func TestOfFirstError(t *testing.T) {
	root, log, huge := one(8, 0), one(10, 0), input(1)
	in, dirs, forms := nums("0", "1"), nums("0", "2^4096"), nums("0", "0", "0")
	for _, c := range []struct {
		a, b api.Ins
		e    api.Errno
	}{{root, huge, api.ErrZero}, {log, huge, api.ErrZero}, {huge, root, api.ErrBig}, {huge, log, api.ErrBig}, {root, log, api.ErrZero}} {
		wantOfError(t, []api.Ins{input(0), c.a, c.b}, in, dirs, forms, 1, c.e)
		wantOfError(t, []api.Ins{input(0), one(3, 0), c.a, c.b, one(3, 0)}, in, dirs, forms, 2, c.e)
	}
}

// Promise 17.2: which outs are instructions, and that an error of Exact comes ahead of those that are none.
func TestOuts(t *testing.T) {
	l := []api.Ins{input(0), constant("3"), two(6, 0, 1), one(3, 2)}
	in := nums("5")
	wantBack(t, l, in, nil, nil, nil, nums("0"))
	wantBack(t, l, in, nil, []int{}, []api.Rat{}, nums("0"))
	wantBack(t, l, in, nil, []int{3}, nums("7"), nums("-21"))
	wantBack(t, l, in, nil, []int{2, 3, 2, 0, 1}, nums("7", "1/2", "-1", "100", "55"), nums("233/2"))
	wantBack(t, l, in, nil, []int{0, 0, 0, 0}, nums("1", "2", "-10", "1/2"), nums("-13/2"))
	wantBack(t, l, in, nil, []int{2, 2}, nums("7", "-7"), nums("0"))
	for _, out := range append(farOut(), 4, 5, -2) {
		wantBackError(t, l, in, nil, []int{out}, nums("1"), 0, api.ErrIndex)
		wantBackError(t, l, in, nil, []int{3, out}, nums("1", "1"), 0, api.ErrIndex)
		wantBackError(t, l, in, nil, []int{out, 3, 2}, nums("1", "0", "2"), 0, api.ErrIndex)
		wantBackError(t, l, in, nil, []int{3, out, 2}, nums("0", "0", "0"), 0, api.ErrIndex)
		wantBackError(t, nil, nil, nil, []int{out}, nums("1"), 0, api.ErrIndex)
		// Ahead of what the adjoints cause: a division by 0, and one that is too long.
		wantBackError(t, []api.Ins{constant("0"), one(10, 0)}, nil, nums("1"), []int{1, out}, nums("1", "1"), 0, api.ErrIndex)
		wantBackError(t, l, in, nil, []int{3, out}, nums("2^4096", "1"), 0, api.ErrIndex)
	}
	wantBackError(t, nil, nil, nil, []int{0}, nums("1"), 0, api.ErrIndex)
	wantBackError(t, []api.Ins{}, in, nil, []int{0}, nums("1"), 0, api.ErrIndex)
}

// Promise 17.2: adjoints of exactly 4096 bits and of more, at a first, a middle and the last instruction.
func TestBackMostBits(t *testing.T) {
	l := []api.Ins{input(0), constant("1"), one(3, 0), constant("5"), one(3, 2), constant("2")}
	for _, s := range longest() {
		minus := strings.TrimPrefix("-"+s, "--")
		for out, want := range []string{s, "0", minus, "0", s, "0"} {
			wantBack(t, l, nums("1"), nil, []int{out}, nums(s), nums(want))
		}
	}
	for _, s := range tooLong() {
		for out := range l {
			wantBackError(t, l, nums("1"), nil, []int{out}, nums(s), out, api.ErrBig)
			wantBackError(t, l, nums("1"), nil, []int{0, out, 1}, nums("0", s, "0"), out, api.ErrBig)
		}
		// From the last instruction on.
		wantBackError(t, l, nums("1"), nil, []int{0, 3, 1}, nums(s, s, s), 3, api.ErrBig)
		wantBackError(t, l, nums("1"), nil, []int{5, 0}, nums(s, s), 5, api.ErrBig)
		wantBackError(t, []api.Ins{input(0)}, nums("1"), nil, []int{0}, nums(s), 0, api.ErrBig)
	}
}

// Promise 17.2: adjoints that an operation makes exactly 4096 bits long, or 4097, for each operand.
func TestBackMostBitsOfEachOp(t *testing.T) {
	for _, c := range []struct {
		x     api.Ins
		in    []api.Rat
		form  string
		cot   string
		wantE int // the number of the instruction whose adjoint is too long, or -1
		want  []string
	}{
		{two(6, 0, 1), nums("1", "2^2048"), "1", "2^2047", -1, []string{"2^4095", "2^2047"}},
		{two(6, 0, 1), nums("1", "2^2048"), "1", "2^2048", 0, nil},
		{two(6, 0, 1), nums("2^2048", "1"), "1", "2^2047", -1, []string{"2^2047", "2^4095"}},
		{two(6, 0, 1), nums("2^2048", "1"), "1", "2^2048", 1, nil},
		{two(6, 0, 1), nums("2^2047", "2^2048"), "1", "2^2049", 1, nil},
		{two(6, 0, 0), nums("2^2047", "0"), "1", "2^2047", -1, []string{"2^4095", "0"}},
		{two(6, 0, 0), nums("2^2047", "0"), "1", "2^2048", 0, nil},
		{two(4, 0, 0), nums("0", "0"), "1", "2^4094", -1, []string{"2^4095", "0"}},
		{two(4, 0, 0), nums("0", "0"), "1", "2^4095", 0, nil},
		{two(4, 1, 1), nums("0", "0"), "1", "2^4095", 1, nil},
		{two(5, 0, 0), nums("0", "0"), "1", "2^4096-1", -1, []string{"0", "0"}},
		{two(7, 0, 1), nums("0", "2^2048"), "1", "1/2^2047", -1, []string{"1/2^4095", "0"}},
		{two(7, 0, 1), nums("0", "2^2048"), "1", "1/2^2048", 0, nil},
		{two(7, 0, 1), nums("2^2048", "1"), "1", "2^2047", -1, []string{"2^2047", "-2^4095"}},
		{two(7, 0, 1), nums("2^2048", "1"), "1", "2^2048", 1, nil},
		{one(8, 0), nums("1", "1"), "2^4094", "1", -1, []string{"1/2^4095", "0"}},
		{one(8, 0), nums("1", "1"), "2^4095", "1", 0, nil},
		{one(9, 1), nums("1", "1"), "2^2048", "2^2047", -1, []string{"0", "2^4095"}},
		{one(9, 1), nums("1", "1"), "2^2048", "2^2048", 1, nil},
		{one(10, 1), nums("1", "2^2048"), "1", "1/2^2047", -1, []string{"0", "1/2^4095"}},
		{one(10, 1), nums("1", "2^2048"), "1", "1/2^2048", 1, nil},
	} {
		l := []api.Ins{input(0), input(1), c.x}
		if c.wantE >= 0 {
			wantBackError(t, l, c.in, nums(c.form), []int{2}, nums(c.cot), c.wantE, api.ErrBig)
			continue
		}
		wantBack(t, l, c.in, nums(c.form), []int{2}, nums(c.cot), nums(c.want...))
	}
}

// Promise 17.2: an adjoint is complete when its instruction's turn comes, and only then it may be too long; the results are not adjoints of instructions.
func TestBackCompleteAdjoints(t *testing.T) {
	in := nums("1")
	wantBack(t, []api.Ins{input(0)}, in, nil, []int{0, 0, 0}, nums("2^4096", "3", "-2^4096"), nums("3"))
	wantBack(t, []api.Ins{input(0), one(3, 0), one(3, 0)}, in, nil, []int{1, 0, 2}, nums("2^4095", "2^4096+1", "2^4095"), nums("1"))
	wantBack(t, []api.Ins{constant("1"), input(0), one(3, 1), two(4, 1, 1)}, in, nil, []int{3, 2}, nums("2^4095", "2^4095+1"), nums("2^4095-1"))
	wantBack(t, []api.Ins{input(0), input(0)}, in, nil, []int{0, 1}, nums("2^4095", "2^4095"), nums("2^4096"))
	wantBackError(t, []api.Ins{input(0)}, in, nil, []int{0, 0}, nums("2^4095", "2^4095"), 0, api.ErrBig)
	wantBackError(t, []api.Ins{constant("1"), input(0), one(3, 1), one(3, 1)}, in, nil, []int{2, 3}, nums("2^4095", "2^4095"), 1, api.ErrBig)
}

// Promise 17.2 and R2: an adjoint that is too long is named ahead of the instruction's division by 0, and a later instruction comes ahead of both.
func TestBackFirstError(t *testing.T) {
	for _, op := range []int{8, 10} {
		l := []api.Ins{constant("0"), one(op, 0), one(3, 0), input(0)}
		forms := nums("0", "0")
		wantBackError(t, l, nums("0"), forms, []int{1}, nums("2^4096"), 1, api.ErrBig)
		wantBackError(t, l, nums("0"), forms, []int{1}, nums("2^4095"), 1, api.ErrZero)
		wantBackError(t, l, nums("0"), forms, []int{0}, nums("2^4096"), 1, api.ErrZero)
		wantBackError(t, l, nums("0"), forms, []int{1, 2}, nums("2^4096", "2^4096"), 2, api.ErrBig)
		wantBackError(t, l, nums("0"), forms, []int{1, 3}, nums("1", "2^4096"), 3, api.ErrBig)
		wantBackError(t, append(l, one(op, 3)), nums("0"), forms, []int{1, 3}, nums("1", "2^4096"), 4, api.ErrZero)
	}
}

// texts are those of exact numbers that random programs take.
func texts() []string {
	return []string{"0", "1", "-1", "2", "1/2", "-3/7", "10/3", "2^64", "-1/2^64", "2^64-1/2^70+1", "2^1500+1", "-1/2^1400-1"}
}

func pick(r *rand.Rand) string {
	return texts()[r.Intn(len(texts()))]
}

// randomProgram is a program of n instructions, with forms or without them.
func randomProgram(r *rand.Rand, n, inputs int, forms bool) []api.Ins {
	l := make([]api.Ins, n)
	for i := range l {
		op := 1 + r.Intn(10)
		switch {
		case op == 1 || i == 0:
			l[i] = input(r.Intn(inputs))
		case op == 2:
			l[i] = constant(pick(r))
		case op == 3 || op > 7 && forms:
			l[i] = one(op, r.Intn(i))
		default:
			l[i] = two(4+op%4, r.Intn(i), r.Intn(i))
		}
	}
	return l
}

func randomNums(r *rand.Rand, n int) []api.Rat {
	var out []api.Rat
	for range n {
		out = append(out, num(pick(r)))
	}
	return out
}

// bitsOf is the greater of the lengths of both parts.
func bitsOf(v *big.Rat) int {
	return max(v.Num().BitLen(), v.Denom().BitLen())
}

func sum(a, b *big.Rat) *big.Rat     { return new(big.Rat).Add(a, b) }
func product(a, b *big.Rat) *big.Rat { return new(big.Rat).Mul(a, b) }

// slopes are the partial derivatives of an instruction with respect to its operands, without regard to whether both are the same; false if they divide by 0.
func slopes(x api.Ins, y *big.Rat, vals []*big.Rat) (*big.Rat, *big.Rat, bool) {
	zero, unit := new(big.Rat), big.NewRat(1, 1)
	minus := new(big.Rat).Neg(unit)
	inverse := func(v *big.Rat) (*big.Rat, bool) {
		if v.Sign() == 0 {
			return nil, false
		}
		return new(big.Rat).Inv(v), true
	}
	switch x.Op {
	case 3:
		return minus, zero, true
	case 4:
		return unit, unit, true
	case 5:
		return unit, minus, true
	case 6:
		return vals[x.B], vals[x.A], true
	case 7:
		s, ok := inverse(vals[x.B])
		return s, product(minus, product(s, y)), ok
	case 8:
		s, ok := inverse(sum(y, y))
		return s, zero, ok
	case 9:
		return y, zero, true
	case 10:
		s, ok := inverse(vals[x.A])
		return s, zero, ok
	}
	return zero, zero, true
}

// values are numbers as values.
func values(list []api.Rat) []*big.Rat {
	var out []*big.Rat
	for _, x := range list {
		out = append(out, value(x))
	}
	return out
}

// oracleOf is the tangents of valid arguments for which Exact returns these values, by a way that does not use the program.
func oracleOf(l []api.Ins, vals []*big.Rat, dirs []api.Rat) ([]api.Rat, int, api.Errno) {
	var tans []*big.Rat
	for i, x := range l {
		tan := new(big.Rat)
		if x.Op == 1 {
			tan = value(dirs[x.A])
		} else if x.Op > 2 {
			a, b, ok := slopes(x, vals[i], vals)
			if !ok {
				return nil, i, api.ErrZero
			}
			tan = sum(product(a, tans[x.A]), product(b, tans[x.B]))
		}
		if bitsOf(tan) > 4096 {
			return nil, i, api.ErrBig
		}
		tans = append(tans, tan)
	}
	return exacts(tans), 0, api.OK
}

// oracleBack is the results of valid arguments for which Exact returns these values, by a way that does not use the program.
func oracleBack(l []api.Ins, vals []*big.Rat, outs []int, cots []api.Rat) ([]api.Rat, int, api.Errno) {
	adjoints := make([]*big.Rat, len(l))
	inputs := 0
	for i, x := range l {
		adjoints[i] = new(big.Rat)
		if x.Op == 1 {
			inputs = max(inputs, x.A+1)
		}
	}
	for k, out := range outs {
		if out < 0 || out >= len(l) {
			return nil, 0, api.ErrIndex
		}
		adjoints[out] = sum(adjoints[out], value(cots[k]))
	}
	results := make([]*big.Rat, inputs)
	for i := range results {
		results[i] = new(big.Rat)
	}
	for i, x := range slices.Backward(l) {
		g := adjoints[i]
		if bitsOf(g) > 4096 {
			return nil, i, api.ErrBig
		}
		if x.Op == 1 {
			results[x.A] = sum(results[x.A], g)
		} else if x.Op > 2 {
			a, b, ok := slopes(x, vals[i], vals)
			if !ok {
				return nil, i, api.ErrZero
			}
			adjoints[x.A] = sum(adjoints[x.A], product(a, g))
			adjoints[x.B] = sum(adjoints[x.B], product(b, g))
		}
	}
	return exacts(results), 0, api.OK
}

// outputs are some numbers, most of them of instructions.
func outputs(r *rand.Rand, n, outside int) []int {
	var outs []int
	for range r.Intn(5) {
		outs = append(outs, r.Intn(n))
	}
	if len(outs) > 0 && r.Intn(10) == 0 {
		outs[r.Intn(len(outs))] = outside
	}
	return outs
}

// Promise 17.1, for programs of each Op in any order; each error and a run without one occur.
func TestOfRandom(t *testing.T) {
	r := rand.New(rand.NewSource(1))
	seen := map[api.Errno]int{}
	for range 8000 {
		l := randomProgram(r, 1+r.Intn(14), 4, true)
		in, dirs, forms := randomNums(r, 4), randomNums(r, 4), randomNums(r, 10)
		vals, tans, at, e := tangent.Of(l, in, dirs, forms)
		all, wantAt, wantE := evals.Exact(l, in, forms)
		var want []api.Rat
		if wantE == api.OK {
			want, wantAt, wantE = oracleOf(l, values(all), dirs)
			seen[wantE]++
		}
		if wantE != api.OK {
			all = nil
		}
		if e != wantE || at != wantAt || !sameNums(tans, want) || !sameNums(vals, all) {
			t.Fatalf("%v for %v, %v and %v: got %v, %v, %d, %v, want %v, %d, %v", l, in, dirs, forms, vals, tans, at, e, want, wantAt, wantE)
		}
	}
	for _, e := range []api.Errno{api.OK, api.ErrZero, api.ErrBig} {
		if seen[e] < 40 {
			t.Errorf("%v occurs %d times", e, seen[e])
		}
	}
}

// Promise 17.2, for programs of each Op in any order; each error and a run without one occur.
func TestBackRandom(t *testing.T) {
	r := rand.New(rand.NewSource(2))
	seen := map[api.Errno]int{}
	for range 8000 {
		l := randomProgram(r, 1+r.Intn(14), 4, true)
		in, forms := randomNums(r, 4), randomNums(r, 10)
		outs := outputs(r, len(l), []int{-1, len(l)}[r.Intn(2)])
		cots := randomNums(r, len(outs))
		got, at, e := tangent.Back(l, in, forms, outs, cots)
		all, wantAt, wantE := evals.Exact(l, in, forms)
		var want []api.Rat
		if wantE == api.OK {
			want, wantAt, wantE = oracleBack(l, values(all), outs, cots)
			seen[wantE]++
		}
		if e != wantE || at != wantAt || !sameNums(got, want) {
			t.Fatalf("%v for %v, %v, %v and %v: got %v, %d, %v, want %v, %d, %v", l, in, forms, outs, cots, got, at, e, want, wantAt, wantE)
		}
	}
	for _, e := range []api.Errno{api.OK, api.ErrIndex, api.ErrZero, api.ErrBig} {
		if seen[e] < 40 {
			t.Errorf("%v occurs %d times", e, seen[e])
		}
	}
}

// Promise 17.3.
func TestAdjoint(t *testing.T) {
	r := rand.New(rand.NewSource(3))
	met := 0
	for range 6000 {
		l := randomProgram(r, 1+r.Intn(14), 4, true)
		in, dirs, forms := randomNums(r, 4), randomNums(r, 4), randomNums(r, 14)
		outs := outputs(r, len(l), 0)
		cots := randomNums(r, len(outs))
		_, tans, _, e := tangent.Of(l, in, dirs, forms)
		results, _, e2 := tangent.Back(l, in, forms, outs, cots)
		if e != api.OK || e2 != api.OK {
			continue
		}
		ahead, behind := new(big.Rat), new(big.Rat)
		for k, out := range outs {
			ahead = sum(ahead, product(value(tans[out]), value(cots[k])))
		}
		for k, x := range results {
			behind = sum(behind, product(value(x), value(dirs[k])))
		}
		if ahead.Cmp(behind) != 0 {
			t.Fatalf("%v for %v, %v, %v, %v and %v: %v and %v", l, in, dirs, forms, outs, cots, ahead, behind)
		}
		if ahead.Sign() != 0 {
			met++
		}
	}
	if met < 500 {
		t.Errorf("only %d sums are not 0", met)
	}
}

// Promise 17.4: the tangents for a d + b e are a times those for d and b times those for e.
func TestLinear(t *testing.T) {
	r := rand.New(rand.NewSource(4))
	met := 0
	for range 6000 {
		l := randomProgram(r, 1+r.Intn(14), 4, true)
		in, d, e, forms := randomNums(r, 4), randomNums(r, 4), randomNums(r, 4), randomNums(r, 14)
		a, b := big.NewRat(int64(r.Intn(9)-4), 3), big.NewRat(int64(r.Intn(9)-4), 5)
		combined := func(x, y api.Rat) *big.Rat { return sum(product(a, value(x)), product(b, value(y))) }
		var both []api.Rat
		for i := range d {
			both = append(both, exact(combined(d[i], e[i])))
		}
		_, first, _, e1 := tangent.Of(l, in, d, forms)
		_, second, _, e2 := tangent.Of(l, in, e, forms)
		_, third, _, e3 := tangent.Of(l, in, both, forms)
		if e1 != api.OK || e2 != api.OK || e3 != api.OK {
			continue
		}
		for i := range l {
			if value(third[i]).Cmp(combined(first[i], second[i])) != 0 {
				t.Fatalf("instruction %d of %v: %v, %v and %v", i, l, first[i], second[i], third[i])
			}
		}
		met++
	}
	if met < 1000 {
		t.Errorf("only %d programs have tangents", met)
	}
}

// Promises 17.1 and 17.2: the longest programs.
func TestLongest(t *testing.T) {
	l := []api.Ins{input(0)}
	for i := range 65535 {
		l = append(l, two(4+i%2, i, 0))
	}
	_, tans, at, e := tangent.Of(l, nums("1/3"), nums("1/7"), nil)
	if e != api.OK || at != 0 || len(tans) != 65536 || !sameNum(tans[65535], num("2/7")) || !sameNum(tans[65534], num("1/7")) {
		t.Errorf("%d tangents, %d, %v", len(tans), at, e)
	}
	wantBack(t, l, nums("1/3"), nil, []int{65535, 0}, nums("5", "1"), nums("11"))
	wantBackError(t, l, nums("1/3"), nil, []int{65536}, nums("5"), 0, api.ErrIndex)
	l = append(l, input(0))
	wantOfError(t, l, nums("1/3"), nums("1/7"), nil, 0, api.ErrArg)
	wantBackError(t, l, nums("1/3"), nil, []int{0}, nums("5"), 0, api.ErrArg)
}

// copyNum is a number in memory of its own, with what is behind the ends of its lists.
func copyNum(x api.Rat) api.Rat {
	return api.Rat{Neg: x.Neg, Num: slices.Clone(x.Num[:cap(x.Num)]), Den: slices.Clone(x.Den[:cap(x.Den)])}
}

func copyNums(list []api.Rat) []api.Rat {
	var out []api.Rat
	for _, x := range list[:cap(list)] {
		out = append(out, copyNum(x))
	}
	return out
}

func copyProgram(l []api.Ins) []api.Ins {
	out := slices.Clone(l[:cap(l)])
	for i := range out {
		out[i].Num = copyNum(out[i].Num)
	}
	return out
}

// parts are the lists of numbers.
func parts(lists ...[]api.Rat) [][]uint64 {
	var out [][]uint64
	for _, list := range lists {
		for _, x := range list {
			out = append(out, x.Num, x.Den)
		}
	}
	return out
}

func overwrite(lists [][]uint64) {
	for _, a := range lists {
		for i := range a[:cap(a)] {
			a[:cap(a)][i] ^= top
		}
	}
}

// R4: no function changes its arguments, or the capacity behind them, and results are new memory.
func TestArgumentsAndResultsAreApart(t *testing.T) {
	r := rand.New(rand.NewSource(5))
	seen := 0
	for range 1500 {
		l := withSpare(randomProgram(r, 2+r.Intn(10), 3, true), constant("77"))
		in, dirs, forms := withSpare(randomNums(r, 3), num("55")), withSpare(randomNums(r, 3), num("44")), withSpare(randomNums(r, 14), num("66"))
		outs := withSpare([]int{r.Intn(len(l)), r.Intn(len(l))}, 3)
		cots := withSpare(randomNums(r, 2), num("33"))
		l0, in0, dirs0, forms0, outs0, cots0 := copyProgram(l), copyNums(in), copyNums(dirs), copyNums(forms), slices.Clone(outs[:cap(outs)]), copyNums(cots)
		check := func(what string) {
			t.Helper()
			if !sameProgram(copyProgram(l), l0) || !sameNums(copyNums(in), in0) || !sameNums(copyNums(dirs), dirs0) || !sameNums(copyNums(forms), forms0) {
				t.Fatalf("%s changed the arguments", what)
			}
			if !slices.Equal(outs[:cap(outs)], outs0) || !sameNums(copyNums(cots), cots0) {
				t.Fatalf("%s changed outs or cots", what)
			}
		}
		vals, tans, _, e := tangent.Of(l, in, dirs, forms)
		results, _, e2 := tangent.Back(l, in, forms, outs, cots)
		check("a call")
		vals1, tans1, _, _ := tangent.Of(l, in, dirs, forms)
		results1, _, _ := tangent.Back(l, in, forms, outs, cots)
		vals2, tans2, results2 := exacts(values(vals)), exacts(values(tans)), exacts(values(results))
		overwrite(parts(vals, tans, results))
		check("overwriting the results")
		overwrite(parts(in, dirs, forms, cots))
		for _, x := range l {
			overwrite([][]uint64{x.Num.Num, x.Num.Den})
		}
		if e == api.OK && (!sameNums(vals1, vals2) || !sameNums(tans1, tans2)) || e2 == api.OK && !sameNums(results1, results2) {
			t.Fatal("a result changed with the arguments, or with another result")
		}
		if e == api.OK && e2 == api.OK {
			seen++
		}
	}
	if seen < 300 {
		t.Errorf("only %d calls have results", seen)
	}
}

// wantApart says that no two lists share memory, behind their ends either.
func wantApart(t *testing.T, lists [][]uint64) {
	t.Helper()
	for i, a := range lists {
		for k := range a[:cap(a)] {
			a[:cap(a)][k] = uint64(100 + i)
		}
	}
	for i, a := range lists {
		for k, w := range a[:cap(a)] {
			if w != uint64(100+i) {
				t.Errorf("list %d of %d has the word %d at %d", i, len(lists), w, k)
			}
		}
	}
}

// R4: no two lists of a result are one, even where an element or a list of the arguments is used several times.
func TestListsOfOneResultAreApart(t *testing.T) {
	shared := []uint64{5, 1}
	five, unit := api.Rat{Num: shared[:1], Den: shared[1:]}, api.Rat{Num: shared[1:], Den: shared[1:]}
	l := []api.Ins{input(0), input(0), input(1), {Op: 2, Num: five}, {Op: 2, Num: five}, one(8, 2), one(9, 2), one(3, 0), two(6, 0, 2), two(7, 0, 2), two(4, 0, 3), two(5, 1, 3), input(3)}
	in, dirs := []api.Rat{five, unit, unit, five}, []api.Rat{five, five, unit, unit}
	vals, tans, _, e := tangent.Of(l, in, dirs, []api.Rat{unit, unit})
	if e != api.OK || !sameNums(tans, nums("5", "5", "5", "0", "0", "5/2", "5", "-5", "30", "-20", "5", "5", "1")) {
		t.Fatal(tans, e)
	}
	wantApart(t, parts(vals, tans))
	results, _, e := tangent.Back(l, in, []api.Rat{unit, unit}, []int{0, 2, 12, 10, 8}, []api.Rat{five, five, unit, unit, unit})
	if e != api.OK || !sameNums(results, nums("7", "10", "0", "1")) {
		t.Fatal(results, e)
	}
	wantApart(t, parts(results))
	results, _, e = tangent.Back(l, in, []api.Rat{unit, unit}, nil, nil)
	if e != api.OK || !sameNums(results, nums("0", "0", "0", "0")) {
		t.Fatal(results, e)
	}
	wantApart(t, parts(results))
	if !slices.Equal(shared, []uint64{5, 1}) {
		t.Errorf("the argument is %v", shared)
	}
}
