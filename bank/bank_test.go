package bank_test

import (
	"math"
	"math/big"
	"math/rand"
	"slices"
	"testing"

	"gradine/api"
	"gradine/bank"
	"gradine/evals"
	"gradine/kernel"
	"gradine/line"
)

const (
	top      = 1<<64 - 1
	sign     = 1 << 63
	nan      = 0x7ff8000000000000
	infinity = 0x7ff0000000000000
	greatest = 0x7fefffffffffffff
	normal   = 0x0010000000000000 // the least normal double
)

// modes are all modes.
func modes() []int {
	return []int{api.Exact, api.Float, api.Line}
}

// withSpare is a copy of a list with capacity behind it that a function could overwrite.
func withSpare[T any](a []T, spare T) []T {
	b := slices.Clone(a)
	for range 4 {
		b = append(b, spare)
	}
	return b[:len(a)]
}

// list is the normalized list of a number without its sign.
func list(n *big.Int) []uint64 {
	var a []uint64
	for _, w := range n.Bits() {
		a = append(a, uint64(w))
	}
	return withSpare(a, 0x5ca1ab1e)
}

// exact is the valid number of a value, by a way that does not use the program.
func exact(v *big.Rat) api.Rat {
	return api.Rat{Neg: v.Sign() < 0, Num: list(v.Num()), Den: list(v.Denom())}
}

// value is the value of a number, by a way that does not use the program.
func value(x api.Rat) *big.Rat {
	whole := func(a []uint64) *big.Int {
		n := new(big.Int)
		for _, w := range slices.Backward(a) {
			n.Add(n.Lsh(n, 64), new(big.Int).SetUint64(w))
		}
		return n
	}
	v := new(big.Rat).SetFrac(whole(x.Num), whole(x.Den))
	if x.Neg {
		v.Neg(v)
	}
	return v
}

// num is the exact number of a text.
func num(s string) api.Rat {
	v, ok := new(big.Rat).SetString(s)
	if !ok {
		panic(s)
	}
	return exact(v)
}

// power2 is 2^n + plus as an exact number.
func power2(n uint, plus int64) api.Rat {
	v := new(big.Int).Lsh(big.NewInt(1), n)
	return exact(new(big.Rat).SetInt(v.Add(v, big.NewInt(plus))))
}

// inverse is 1 / x.
func inverse(x api.Rat) api.Rat {
	return api.Rat{Neg: x.Neg, Num: x.Den, Den: x.Num}
}

// rat is the exact scalar of a text.
func rat(s string) api.Val {
	return api.Val{Rat: num(s)}
}

// word is the scalar of a double as a word.
func word(b uint64) api.Val {
	return api.Val{Bits: b}
}

// double is the scalar of a double, with one word for all that are not a number.
func double(f float64) api.Val {
	if f != f {
		return word(nan)
	}
	return word(math.Float64bits(f))
}

// ref is the scalar of an instruction.
func ref(n int) api.Val {
	return api.Val{Ref: n}
}

func sameNum(a, b api.Rat) bool {
	return a.Neg == b.Neg && slices.Equal(a.Num, b.Num) && slices.Equal(a.Den, b.Den)
}

func same(x, y api.Val) bool {
	return sameNum(x.Rat, y.Rat) && x.Bits == y.Bits && x.Ref == y.Ref
}

func sameProgram(a, b []api.Ins) bool {
	return slices.EqualFunc(a, b, func(x, y api.Ins) bool {
		return x.Op == y.Op && x.A == y.A && x.B == y.B && sameNum(x.Num, y.Num)
	})
}

// state is all that a bank shows of itself.
type state struct {
	mode    int
	err     api.Errno
	ops     int
	tie     bool
	met     []bool
	program []api.Ins
	mark    api.Mark
}

// stateOf is in memory of its own, whatever the bank's lists are in.
func stateOf(b *bank.Bank) state {
	program := slices.Clone(b.Program())
	for i := range program {
		program[i].Num = copyNum(program[i].Num)
	}
	return state{b.Mode(), b.Err(), b.Ops(), b.Tie(), slices.Clone(b.Met()), program, b.Mark()}
}

func (s state) same(o state) bool {
	return s.mode == o.mode && s.err == o.err && s.ops == o.ops && s.tie == o.tie && slices.Equal(s.met, o.met) && sameProgram(s.program, o.program) && s.mark == o.mark
}

// operation is one of the calls that perform an operation, with its Op and its number of operands.
type operation struct {
	op, arity int
	do        func(b *bank.Bank, x, y api.Val) api.Val
}

func operations() []operation {
	return []operation{
		{3, 1, func(b *bank.Bank, x, y api.Val) api.Val { return b.Neg(x) }},
		{4, 2, (*bank.Bank).Add},
		{5, 2, (*bank.Bank).Sub},
		{6, 2, (*bank.Bank).Mul},
		{7, 2, (*bank.Bank).Div},
		{8, 1, func(b *bank.Bank, x, y api.Val) api.Val { return b.Sqrt(x) }},
		{9, 1, func(b *bank.Bank, x, y api.Val) api.Val { return b.Exp(x) }},
		{10, 1, func(b *bank.Bank, x, y api.Val) api.Val { return b.Log(x) }},
	}
}

// lit is a number that is 3/2 in all modes.
func lit() api.Lit {
	return api.Lit{P: 3, Q: 2, Bits: 0x3ff8000000000000}
}

// wantVal says that a call returned a scalar and left the bank without an error.
func wantVal(t *testing.T, what string, b *bank.Bank, got, want api.Val) {
	t.Helper()
	if !same(got, want) || b.Err() != api.OK {
		t.Errorf("%s in mode %d = %v, %v, want %v", what, b.Mode(), got, b.Err(), want)
	}
}

// wantFailure says that a call returned the zero scalar, that the bank has an error, and that nothing else in it changed.
func wantFailure(t *testing.T, what string, b *bank.Bank, before state, got api.Val, want api.Errno) {
	t.Helper()
	if !same(got, api.Val{}) || b.Err() != want {
		t.Errorf("%s in mode %d = %v, %v, want %v", what, b.Mode(), got, b.Err(), want)
	}
	before.err, before.mark.Err = want, want
	if !stateOf(b).same(before) {
		t.Errorf("%s in mode %d left %v, want %v", what, b.Mode(), stateOf(b), before)
	}
}

// wantBehindError says that a bank that has an error returns zero scalars and does not change.
func wantBehindError(t *testing.T, b *bank.Bank, x, y api.Val) {
	t.Helper()
	before := stateOf(b)
	for _, o := range operations() {
		if got := o.do(b, x, y); !same(got, api.Val{}) {
			t.Errorf("behind an error, Op %d = %v", o.op, got)
		}
	}
	for _, got := range []api.Val{b.Lit(lit()), b.Lit(api.Lit{}), b.Num(1, 2), b.Num(1, 0)} {
		if !same(got, api.Val{}) {
			t.Errorf("behind an error, a number is %v", got)
		}
	}
	if b.Less(x, y) || b.Less(y, x) || b.Less(x, x) {
		t.Error("behind an error, Less is true")
	}
	b.Fail(api.ErrView)
	b.Fail(api.OK)
	if !stateOf(b).same(before) {
		t.Errorf("behind an error, the bank became %v, want %v", stateOf(b), before)
	}
}

// Promises 18.1, 18.2 and 18.3: the document's examples, and those of the chapter's words.
func TestExamples(t *testing.T) {
	b := bank.New(api.Exact, nil)
	h := b.Num(1, 2)
	wantVal(t, "1/2 + 1/2", b, b.Add(h, h), rat("1"))
	b = bank.New(api.Line, nil)
	x, y := b.Lit(api.Lit{}), b.Lit(api.Lit{})
	wantVal(t, "a product", b, b.Mul(x, y), ref(2))
	if !sameProgram(b.Program(), []api.Ins{{Op: 1}, {Op: 1, A: 1}, {Op: 6, A: 0, B: 1}}) {
		t.Error(b.Program())
	}
}

// Promise 18.1: the modes there are, and what a new bank has.
func TestNew(t *testing.T) {
	for _, mode := range modes() {
		for _, asks := range [][]bool{nil, {}, {true}, {false, true, true}} {
			b := bank.New(mode, asks)
			if b == nil || !stateOf(b).same(state{mode: mode}) {
				t.Errorf("New(%d, %v) is %v", mode, asks, b)
			}
		}
	}
	for _, mode := range []int{-1, 3, 4, -2, 256, 1 << 32, 1<<32 + 1, math.MaxInt, math.MinInt, math.MinInt + 1} {
		if bank.New(mode, nil) != nil || bank.New(mode, []bool{true}) != nil {
			t.Errorf("there is a bank of mode %d", mode)
		}
	}
}

// Promise 18.1: a nil bank.
func TestNilBank(t *testing.T) {
	b := bank.New(3, nil)
	check := func(what string) {
		t.Helper()
		if b.Mode() != 0 || b.Err() != api.ErrNil || b.Ops() != 0 || b.Tie() || len(b.Met()) != 0 || len(b.Program()) != 0 {
			t.Errorf("behind %s, a nil bank has %d, %v, %d, %v, %v, %v", what, b.Mode(), b.Err(), b.Ops(), b.Tie(), b.Met(), b.Program())
		}
	}
	check("nothing")
	for _, e := range []api.Errno{api.OK, api.ErrArg, api.ErrZero, api.ErrNil, -1} {
		b.Fail(e)
		check("Fail")
	}
	for _, x := range []api.Val{{}, rat("2"), double(2), ref(0), ref(-1)} {
		for _, o := range operations() {
			if got := o.do(b, x, x); !same(got, api.Val{}) {
				t.Errorf("Op %d of a nil bank is %v", o.op, got)
			}
			check("an operation")
		}
		if b.Less(x, x) || b.Less(rat("1"), x) || b.Less(double(1), x) {
			t.Error("Less of a nil bank is true")
		}
		check("Less")
	}
	for _, got := range []api.Val{b.Lit(lit()), b.Lit(api.Lit{}), b.Num(1, 2), b.Num(1, 0)} {
		if !same(got, api.Val{}) {
			t.Errorf("a number of a nil bank is %v", got)
		}
	}
	check("numbers")
	if m := b.Mark(); m.Ins != 0 || m.Asked != 0 || m.Met != 0 || m.Ops != 0 || m.Inputs != 0 || m.Tie {
		t.Errorf("the mark of a nil bank is %v", m)
	}
	for _, m := range []api.Mark{b.Mark(), {}, {Ins: 1}, {Ins: -1}, {Ops: 1}, {Tie: true}, {Err: api.ErrZero}} {
		b.Undo(m)
		check("Undo")
	}
	if b.Undo(api.Mark{Ins: 1}) || b.Undo(api.Mark{Ops: -1}) {
		t.Error("Undo of a nil bank is true where a number is out")
	}
}

// Promise 18.1: the first error remains, and behind it calls have no effect.
func TestFail(t *testing.T) {
	for _, mode := range modes() {
		for _, e := range []api.Errno{api.ErrArg, api.ErrZero, api.ErrStale, api.ErrNil, 99, -1} {
			b := bank.New(mode, []bool{true, true, true})
			x, y := b.Lit(lit()), b.Num(5, 1)
			b.Less(x, y)
			b.Add(x, y)
			before := stateOf(b)
			b.Fail(api.OK)
			if !stateOf(b).same(before) {
				t.Errorf("Fail(OK) left %v", stateOf(b))
			}
			b.Fail(e)
			wantFailure(t, "Fail", b, before, api.Val{}, e)
			b.Fail(api.ErrBig)
			b.Fail(api.OK)
			wantFailure(t, "a second Fail", b, before, api.Val{}, e)
			wantBehindError(t, b, x, y)
		}
	}
}

// extremes are ints, among them those at the ends.
func extremes() []int {
	return []int{math.MinInt, math.MinInt + 1, -1<<53 - 1, -1 << 32, -12, -3, -2, -1, 0, 1, 2, 3, 10, 12, 1 << 32, 1<<53 + 1, 1<<62 + 1, math.MaxInt - 1, math.MaxInt}
}

// fraction is p / q, where q is not 0.
func fraction(p, q int) *big.Rat {
	return new(big.Rat).SetFrac(big.NewInt(int64(p)), big.NewInt(int64(q)))
}

// nearest is the double nearest to a value; that of 0 has no sign.
func nearest(v *big.Rat) api.Val {
	f, _ := v.Float64()
	return double(f)
}

// Promise 18.2: constants, with p and q 0, negative, and the least and the greatest int.
func TestNum(t *testing.T) {
	for _, p := range extremes() {
		for _, q := range extremes() {
			for _, mode := range modes() {
				b := bank.New(mode, nil)
				b.Lit(lit())
				before := stateOf(b)
				got := b.Num(p, q)
				if q == 0 {
					wantFailure(t, "Num with q 0", b, before, got, api.ErrZero)
					wantBehindError(t, b, got, got)
					continue
				}
				v := fraction(p, q)
				wantVal(t, "Num", b, got, []api.Val{{Rat: exact(v)}, nearest(v), ref(1)}[mode])
				if mode == api.Line {
					before.program = append(before.program, api.Ins{Op: 2, Num: exact(v)})
					before.mark.Ins = 2
				}
				if !stateOf(b).same(before) {
					t.Errorf("Num(%d, %d) in mode %d left %v", p, q, mode, stateOf(b))
				}
			}
		}
	}
}

// Promise 18.2: constants, written out.
func TestNumWrittenOut(t *testing.T) {
	for _, c := range []struct {
		p, q  int
		exact string
		bits  uint64
	}{
		{0, 5, "0", 0}, {0, -5, "0", 0}, {1, 3, "1/3", 0x3fd5555555555555}, {-1, 3, "-1/3", 0xbfd5555555555555}, {2, -6, "-1/3", 0xbfd5555555555555},
		{-4, -2, "2", 0x4000000000000000}, {math.MinInt, 1, "-9223372036854775808", 0xc3e0000000000000}, {math.MinInt, -1, "9223372036854775808", 0x43e0000000000000},
		{math.MinInt, math.MinInt, "1", 0x3ff0000000000000}, {1, math.MinInt, "-1/9223372036854775808", 0xbc00000000000000}, {math.MaxInt, 1, "9223372036854775807", 0x43e0000000000000},
		{1<<53 + 1, 1, "9007199254740993", 0x4340000000000000}, {1<<53 + 3, 1, "9007199254740995", 0x4340000000000002}, {1, 10, "1/10", 0x3fb999999999999a},
	} {
		b := bank.New(api.Exact, nil)
		wantVal(t, "Num", b, b.Num(c.p, c.q), rat(c.exact))
		b = bank.New(api.Float, nil)
		wantVal(t, "Num", b, b.Num(c.p, c.q), word(c.bits))
		b = bank.New(api.Line, nil)
		wantVal(t, "Num", b, b.Num(c.p, c.q), ref(0))
		if !sameProgram(b.Program(), []api.Ins{{Op: 2, Num: num(c.exact)}}) {
			t.Errorf("Num(%d, %d) wrote %v", c.p, c.q, b.Program())
		}
	}
}

// doubles are of all kinds, with and without a sign.
func doubles() []uint64 {
	out := []uint64{0, 1, 2, normal - 1, normal, normal + 1, greatest, infinity, infinity + 1, 0x7ff7ffffffffffff, nan, nan + 1, 0x7fffffffffffffff}
	for _, f := range []float64{1, 2, 3, 0.5, 1.5, 0.1, 1.0 / 3, 710, 746, 1e-300, 1e300, 1e16, math.Pi} {
		out = append(out, math.Float64bits(f))
	}
	for _, b := range slices.Clone(out) {
		out = append(out, b|sign)
	}
	return out
}

// clean is a double that has one word if it is not a number.
func clean(b uint64) uint64 {
	return double(math.Float64frombits(b)).Bits
}

// Promise 18.2: numbers that are inputs, exactly, with P and Q 0, negative, and the least and the greatest int, whatever the bits are.
func TestLitExact(t *testing.T) {
	for _, p := range extremes() {
		for _, q := range extremes() {
			b := bank.New(api.Exact, nil)
			before := stateOf(b)
			got := b.Lit(api.Lit{P: p, Q: q, Bits: nan + 1})
			if q == 0 {
				wantFailure(t, "Lit with Q 0", b, before, got, api.ErrZero)
				wantBehindError(t, b, got, got)
				continue
			}
			wantVal(t, "Lit", b, got, api.Val{Rat: exact(fraction(p, q))})
			if b.Ops() != 0 || len(b.Program()) != 0 {
				t.Errorf("Lit left %v", stateOf(b))
			}
		}
	}
}

// Promise 18.2: numbers that are inputs, as doubles, whatever P and Q are.
func TestLitFloat(t *testing.T) {
	for _, d := range doubles() {
		for _, q := range []int{0, 1, -7} {
			b := bank.New(api.Float, nil)
			wantVal(t, "Lit", b, b.Lit(api.Lit{P: 5, Q: q, Bits: d}), word(clean(d)))
			if b.Ops() != 0 || len(b.Program()) != 0 {
				t.Errorf("Lit left %v", stateOf(b))
			}
		}
	}
}

// Promise 18.2: numbers that are inputs, as instructions with the next input number, whatever P, Q and the bits are.
func TestLitLine(t *testing.T) {
	b := bank.New(api.Line, nil)
	wantVal(t, "Lit", b, b.Lit(api.Lit{}), ref(0))
	wantVal(t, "Num", b, b.Num(7, 1), ref(1))
	wantVal(t, "Lit", b, b.Lit(api.Lit{P: 9, Q: 0, Bits: nan + 1}), ref(2))
	wantVal(t, "Neg", b, b.Neg(ref(0)), ref(3))
	wantVal(t, "Lit", b, b.Lit(lit()), ref(4))
	want := []api.Ins{{Op: 1}, {Op: 2, Num: num("7")}, {Op: 1, A: 1}, {Op: 3}, {Op: 1, A: 2}}
	if !sameProgram(b.Program(), want) || b.Mark() != (api.Mark{Ins: 5, Ops: 1, Inputs: 3}) || b.Ops() != 1 {
		t.Errorf("the program is %v, the mark %v", b.Program(), b.Mark())
	}
}

// nums are exact numbers of several sizes.
func nums() []api.Rat {
	out := []api.Rat{power2(4096, 1), inverse(power2(5000, 3)), power2(64, -1)}
	for _, s := range []string{"0", "1", "-1", "2", "1/2", "-3/7", "10/3", "-18446744073709551616/5", "7/18446744073709551617"} {
		out = append(out, num(s))
	}
	return out
}

// Promise 18.2: operations in mode Exact, which have no limit of bits.
func TestExactOperations(t *testing.T) {
	ops := 0
	b := bank.New(api.Exact, nil)
	for _, x := range nums() {
		for _, y := range nums() {
			u, v := value(x), value(y)
			results := []*big.Rat{new(big.Rat).Neg(u), new(big.Rat).Add(u, v), new(big.Rat).Sub(u, v), new(big.Rat).Mul(u, v)}
			if v.Sign() != 0 {
				results = append(results, new(big.Rat).Quo(u, v))
			}
			for i, want := range results {
				wantVal(t, "an operation", b, operations()[i].do(b, api.Val{Rat: x}, api.Val{Rat: y}), api.Val{Rat: exact(want)})
				ops++
				if b.Ops() != ops {
					t.Fatalf("%d operations, want %d", b.Ops(), ops)
				}
			}
		}
	}
	if !stateOf(b).same(state{ops: ops, mark: api.Mark{Ops: ops}}) {
		t.Errorf("the bank became %v", stateOf(b))
	}
}

// Promise 18.2: what causes an error in mode Exact.
func TestExactErrors(t *testing.T) {
	for _, s := range []string{"0", "1", "4", "-1/3"} {
		for i, want := range map[int]api.Errno{4: api.ErrZero, 5: api.ErrInexact, 6: api.ErrInexact, 7: api.ErrInexact} {
			b := bank.New(api.Exact, nil)
			b.Neg(rat("1"))
			before := stateOf(b)
			got := operations()[i].do(b, rat(s), rat("0"))
			wantFailure(t, "an operation", b, before, got, want)
			wantBehindError(t, b, rat("1"), rat("2"))
		}
	}
}

// floatResult is the result of an operation by the machine's own doubles, except for exp and log, which are defined by their operations.
func floatResult(op int, x, y uint64) api.Val {
	a, b := math.Float64frombits(x), math.Float64frombits(y)
	switch op {
	case 3:
		return double(-a)
	case 4:
		return double(a + b)
	case 5:
		return double(a - b)
	case 6:
		return double(a * b)
	case 7:
		return double(a / b)
	case 8:
		return double(math.Sqrt(a))
	case 9:
		return word(kernel.Exp(x))
	}
	return word(kernel.Log(x))
}

// Promise 18.2: operations in mode Float, of which none is an error.
func TestFloatOperations(t *testing.T) {
	ops := 0
	b := bank.New(api.Float, nil)
	for _, x := range doubles() {
		for _, y := range doubles() {
			for _, o := range operations() {
				x, y := clean(x), clean(y)
				wantVal(t, "an operation", b, o.do(b, word(x), word(y)), floatResult(o.op, x, y))
				ops++
				if b.Ops() != ops {
					t.Fatalf("%d operations, want %d", b.Ops(), ops)
				}
			}
		}
	}
	if !stateOf(b).same(state{mode: api.Float, ops: ops, mark: api.Mark{Ops: ops}}) {
		t.Errorf("the bank became %v", stateOf(b))
	}
}

// Promise 18.2: operations with doubles, written out, where a sign or the last bit shows.
func TestFloatWrittenOut(t *testing.T) {
	b := bank.New(api.Float, nil)
	wantVal(t, "-0", b, b.Neg(word(0)), word(sign))
	wantVal(t, "-Nan", b, b.Neg(word(nan)), word(nan))
	wantVal(t, "-0 + -0", b, b.Add(word(sign), word(sign)), word(sign))
	wantVal(t, "0 - 0", b, b.Sub(word(0), word(0)), word(0))
	wantVal(t, "-0 - 0", b, b.Sub(word(sign), word(0)), word(sign))
	wantVal(t, "-1 * 0", b, b.Mul(double(-1), word(0)), word(sign))
	wantVal(t, "1 / 3", b, b.Div(double(1), double(3)), word(0x3fd5555555555555))
	wantVal(t, "-1 / 0", b, b.Div(double(-1), word(0)), word(infinity|sign))
	wantVal(t, "0 / 0", b, b.Div(word(0), word(0)), word(nan))
	wantVal(t, "sqrt 2", b, b.Sqrt(double(2)), word(0x3ff6a09e667f3bcd))
	wantVal(t, "sqrt -0", b, b.Sqrt(word(sign)), word(sign))
	wantVal(t, "sqrt -1", b, b.Sqrt(double(-1)), word(nan))
	wantVal(t, "exp 0", b, b.Exp(word(0)), double(1))
	wantVal(t, "exp 1", b, b.Exp(double(1)), word(0x4005bf0a8b14576a))
	wantVal(t, "exp -Inf", b, b.Exp(word(infinity|sign)), word(0))
	wantVal(t, "log 0", b, b.Log(word(0)), word(infinity|sign))
	wantVal(t, "log 2", b, b.Log(double(2)), word(0x3fe62e42fefa39ef))
	wantVal(t, "log -1", b, b.Log(double(-1)), word(nan))
	if b.Ops() != 18 {
		t.Error(b.Ops())
	}
}

// small is a bank of mode Line that has written n instructions: a constant first, then negatives.
func small(n int, asks ...bool) *bank.Bank {
	b := bank.New(api.Line, asks)
	for i := range n {
		if i == 0 {
			b.Num(0, 1)
		} else {
			b.Neg(ref(i - 1))
		}
	}
	return b
}

// Promise 18.2: operations in mode Line are instructions, whatever their operands' values.
func TestLineOperations(t *testing.T) {
	b := small(3)
	want := []api.Ins{{Op: 2, Num: num("0")}, {Op: 3, A: 0}, {Op: 3, A: 1}}
	for _, o := range operations() {
		for _, refs := range [][2]int{{0, 1}, {1, 0}, {2, 2}, {0, 0}, {len(want) - 1, 1}, {1, len(want) - 1}} {
			x := api.Ins{Op: o.op, A: refs[0]}
			if o.arity == 2 {
				x.B = refs[1]
			}
			wantVal(t, "an operation", b, o.do(b, ref(refs[0]), ref(refs[1])), ref(len(want)))
			want = append(want, x)
			if !sameProgram(b.Program(), want) || b.Ops() != len(want)-1 || b.Mark() != (api.Mark{Ins: len(want), Ops: len(want) - 1}) {
				t.Fatalf("the program is %v, the mark %v", b.Program(), b.Mark())
			}
		}
	}
	if !line.Right(b.Program()) {
		t.Error("it is no program")
	}
}

// unwritten are Refs that a bank has not written that has n instructions.
func unwritten(n int) []int {
	return []int{-1, n, n + 1, -2, math.MinInt, math.MinInt + 1, math.MaxInt, 65535, 65536, 1 << 32, -1 << 32}
}

// Promises 18.2 and 18.3: Refs that the bank did not write, as a first and a second operand, and those of undone instructions.
func TestLineErrArg(t *testing.T) {
	for _, n := range []int{0, 1, 4} {
		for _, bad := range unwritten(n) {
			for _, pair := range [][2]int{{bad, 0}, {0, bad}, {bad, bad}} {
				for _, o := range operations() {
					if o.arity == 1 && pair[0] != bad {
						continue
					}
					b := small(n, true)
					before := stateOf(b)
					wantFailure(t, "an operation", b, before, o.do(b, ref(pair[0]), ref(pair[1])), api.ErrArg)
					wantBehindError(t, b, ref(0), ref(0))
				}
				b := small(n, true)
				before := stateOf(b)
				if b.Less(ref(pair[0]), ref(pair[1])) {
					t.Error("Less of what was not written is true")
				}
				wantFailure(t, "Less", b, before, api.Val{}, api.ErrArg)
				wantBehindError(t, b, ref(0), ref(0))
			}
		}
	}
	b := small(4, true)
	m := b.Mark()
	x := b.Neg(ref(3))
	b.Undo(m)
	before := stateOf(b)
	wantFailure(t, "an operation", b, before, b.Neg(x), api.ErrArg)
}

// full is a bank of mode Line that has written all instructions that there may be but some.
func full(less int, asks ...bool) *bank.Bank {
	return small(65536-less, asks...)
}

// Promise 18.2: how many instructions there may be, and which errors come ahead.
func TestLineErrFull(t *testing.T) {
	calls := []func(b *bank.Bank) api.Val{
		func(b *bank.Bank) api.Val { return b.Lit(lit()) },
		func(b *bank.Bank) api.Val { return b.Num(1, 3) },
	}
	for _, o := range operations() {
		calls = append(calls, func(b *bank.Bank) api.Val { return o.do(b, ref(65534), ref(0)) })
	}
	b := full(1, true, false)
	m := b.Mark()
	for _, call := range calls {
		wantVal(t, "the last instruction", b, call(b), ref(65535))
		if len(b.Program()) != 65536 {
			t.Fatalf("%d instructions", len(b.Program()))
		}
		before := stateOf(b)
		wantFailure(t, "one instruction more", b, before, call(b), api.ErrFull)
		wantBehindError(t, b, ref(0), ref(65535))
		if !b.Undo(before.mark) {
			t.Fatal("no Undo")
		}
		wantFailure(t, "Num with q 0", b, before, b.Num(1, 0), api.ErrZero)
		b.Undo(before.mark)
		wantFailure(t, "what was not written", b, before, b.Add(ref(0), ref(65536)), api.ErrArg)
		b.Undo(before.mark)
		wantFailure(t, "what was not written", b, before, b.Neg(ref(-1)), api.ErrArg)
		b.Undo(m)
	}
	b.Neg(ref(65534))
	if !b.Less(ref(65535), ref(0)) || b.Err() != api.OK {
		t.Error("a full bank does not compare")
	}
	if l := b.Program(); !line.Right(l) {
		t.Error("it is no program")
	}
}

// Promise 18.2: only in mode Line there is such a limit.
func TestManyOperations(t *testing.T) {
	for i, x := range []api.Val{rat("1/2"), double(0.5)} {
		b := bank.New(modes()[i], nil)
		for range 70000 {
			b.Lit(lit())
			b.Num(1, 3)
			b.Neg(x)
		}
		wantVal(t, "an operation", b, b.Add(x, x), []api.Val{rat("1"), double(1)}[i])
		if b.Ops() != 70001 {
			t.Error(b.Ops())
		}
	}
}

// Promise 18.3: comparisons in mode Exact.
func TestLessExact(t *testing.T) {
	for _, x := range nums() {
		for _, y := range nums() {
			b := bank.New(api.Exact, []bool{true})
			b.Neg(rat("1"))
			order := value(x).Cmp(value(y))
			got := b.Less(api.Val{Rat: x}, api.Val{Rat: y})
			want := state{ops: 1, tie: order == 0, met: []bool{order < 0}, mark: api.Mark{Ops: 1, Met: 1, Tie: order == 0}}
			if got != (order < 0) || !stateOf(b).same(want) {
				t.Errorf("%v < %v is %v, with %v", x, y, got, stateOf(b))
			}
		}
	}
}

// Promise 18.3: comparisons in mode Float, where doubles that are not a number, and zeros, are ties.
func TestLessFloat(t *testing.T) {
	for _, x := range doubles() {
		for _, y := range doubles() {
			x, y := clean(x), clean(y)
			b := bank.New(api.Float, []bool{true})
			u, v := math.Float64frombits(x), math.Float64frombits(y)
			tie := !(u < v) && !(v < u)
			got := b.Less(word(x), word(y))
			want := state{mode: api.Float, tie: tie, met: []bool{u < v}, mark: api.Mark{Met: 1, Tie: tie}}
			if got != (u < v) || !stateOf(b).same(want) {
				t.Errorf("%x < %x is %v, with %v", x, y, got, stateOf(b))
			}
		}
	}
	b := bank.New(api.Float, nil)
	if b.Less(word(sign), word(0)) || !b.Tie() || b.Less(word(nan), double(1)) || b.Less(double(1), word(nan)) || !b.Less(word(infinity|sign), word(infinity)) {
		t.Error("zeros, Nan or infinities are compared in another way")
	}
}

// Promise 18.3: a tie remains, and what is no tie does not make one.
func TestTieRemains(t *testing.T) {
	for i, pair := range [][2]api.Val{{rat("1"), rat("2")}, {double(1), double(2)}} {
		b := bank.New(modes()[i], nil)
		one, two := pair[0], pair[1]
		for _, c := range []struct {
			x, y      api.Val
			less, tie bool
		}{{one, two, true, false}, {two, one, false, false}, {one, two, true, false}, {two, two, false, true}, {one, two, true, true}, {two, one, false, true}, {one, one, false, true}} {
			if got := b.Less(c.x, c.y); got != c.less || b.Tie() != c.tie || b.Mark().Tie != c.tie {
				t.Errorf("%v < %v is %v, with the tie %v", c.x, c.y, got, b.Tie())
			}
		}
		if !slices.Equal(b.Met(), []bool{true, false, true, false, true, false, false}) || b.Ops() != 0 {
			t.Error(b.Met(), b.Ops())
		}
	}
}

// Promise 18.3: in mode Line the answers are returned in order, whatever the instructions are, and there is no tie.
func TestLessLine(t *testing.T) {
	asks := []bool{true, false, false, true, true}
	b := small(3, asks...)
	for i, want := range asks {
		if got := b.Less(ref(i%3), ref(i%2)); got != want || b.Err() != api.OK {
			t.Errorf("answer %d is %v, %v", i, got, b.Err())
		}
		if !slices.Equal(b.Met(), asks[:i+1]) || b.Mark() != (api.Mark{Ins: 3, Asked: i + 1, Met: i + 1, Ops: 2}) || b.Tie() {
			t.Errorf("behind answer %d: %v, %v", i, b.Met(), b.Mark())
		}
	}
	before := stateOf(b)
	if b.Less(ref(0), ref(1)) {
		t.Error("there is an answer more")
	}
	wantFailure(t, "Less", b, before, api.Val{}, api.ErrOracle)
	wantBehindError(t, b, ref(0), ref(1))
	b = small(3)
	before = stateOf(b)
	if b.Less(ref(1), ref(1)) {
		t.Error("there is an answer")
	}
	wantFailure(t, "Less", b, before, api.Val{}, api.ErrOracle)
	// A Ref that was not written is named ahead of an answer that is missing.
	b = small(3)
	before = stateOf(b)
	b.Less(ref(1), ref(3))
	wantFailure(t, "Less", b, before, api.Val{}, api.ErrArg)
}

// Promise 18.3: how many comparisons there may be, and that this is named first.
func TestLessErrFull(t *testing.T) {
	asks := make([]bool, 65537)
	for i := range asks {
		asks[i] = i%3 == 0
	}
	for mode, x := range []api.Val{rat("1"), double(1), ref(0)} {
		for _, answers := range []int{65536, 65537} {
			b := bank.New(mode, asks[:answers])
			b.Num(1, 1)
			for i := range 65536 {
				if got := b.Less(x, x); got != (mode == api.Line && i%3 == 0) || b.Err() != api.OK {
					t.Fatalf("comparison %d in mode %d is %v, %v", i, mode, got, b.Err())
				}
			}
			before := stateOf(b)
			if b.Less(x, x) || len(before.met) != 65536 {
				t.Errorf("one comparison more is true, or there were only %d", len(before.met))
			}
			wantFailure(t, "one comparison more", b, before, api.Val{}, api.ErrFull)
			b.Undo(before.mark)
			b.Less(ref(-1), ref(-1))
			wantFailure(t, "one comparison more", b, before, api.Val{}, api.ErrFull)
			if !b.Undo(api.Mark{Ins: before.mark.Ins, Asked: max(before.mark.Asked-1, 0), Met: 65535}) {
				t.Fatal("no Undo")
			}
			if b.Less(x, x) != (mode == api.Line && 65535%3 == 0) || b.Err() != api.OK {
				t.Error("behind Undo, the last comparison is another one")
			}
		}
	}
}

// call is one call of a bank that has the scalars x and y, with its name.
type call struct {
	name string
	do   func(b *bank.Bank, x, y api.Val)
}

// calls are calls of each kind, with and without errors.
func calls() []call {
	out := []call{
		{"nothing", func(b *bank.Bank, x, y api.Val) {}},
		{"Lit", func(b *bank.Bank, x, y api.Val) { b.Lit(lit()) }},
		{"Lit of none", func(b *bank.Bank, x, y api.Val) { b.Lit(api.Lit{}) }},
		{"Num", func(b *bank.Bank, x, y api.Val) { b.Num(7, 3) }},
		{"Num of none", func(b *bank.Bank, x, y api.Val) { b.Num(7, 0) }},
		{"Less", func(b *bank.Bank, x, y api.Val) { b.Less(x, y) }},
		{"Less of equals", func(b *bank.Bank, x, y api.Val) { b.Less(x, x) }},
		{"Less of all", func(b *bank.Bank, x, y api.Val) {
			for range 9 {
				b.Less(y, x)
			}
		}},
		{"Fail", func(b *bank.Bank, x, y api.Val) { b.Fail(api.ErrStale) }},
		{"Fail and more", func(b *bank.Bank, x, y api.Val) { b.Fail(api.ErrStale); b.Add(x, y); b.Fail(api.ErrArg) }},
		{"a division by nothing", func(b *bank.Bank, x, y api.Val) { b.Div(x, b.Sub(y, y)) }},
		{"what was not written", func(b *bank.Bank, x, y api.Val) { b.Add(ref(-1), ref(-1)) }},
		{"much", func(b *bank.Bank, x, y api.Val) {
			for range 100 {
				b.Less(b.Lit(lit()), b.Mul(x, b.Num(1, 2)))
			}
		}},
	}
	for _, o := range operations() {
		out = append(out, call{"an operation", func(b *bank.Bank, x, y api.Val) { o.do(b, x, y) }})
	}
	return out
}

// begun is a bank that has done some of everything, and two scalars of it, of which the first one is less.
func begun(mode int) (*bank.Bank, api.Val, api.Val) {
	b := bank.New(mode, []bool{true, false, true, false})
	x, y := b.Lit(lit()), b.Num(5, 1)
	b.Add(x, y)
	b.Less(x, y)
	b.Neg(x)
	b.Less(y, x)
	return b, x, y
}

// Promise 18.4: behind a call of any kind, once and twice, Undo restores what was there, and all goes on from there.
func TestUndo(t *testing.T) {
	for _, mode := range modes() {
		for _, c := range calls() {
			for _, d := range calls() {
				b, x, y := begun(mode)
				before, m := stateOf(b), b.Mark()
				for _, call := range []call{c, d} {
					call.do(b, x, y)
					if !b.Undo(m) || !stateOf(b).same(before) {
						t.Fatalf("in mode %d behind %s, and Undo, the bank has %v, want %v", mode, call.name, stateOf(b), before)
					}
					if !b.Undo(m) || !stateOf(b).same(before) {
						t.Fatalf("in mode %d behind %s, and Undo twice, the bank has %v", mode, call.name, stateOf(b))
					}
				}
				other, _, _ := begun(mode)
				c.do(b, x, y)
				c.do(other, x, y)
				if !stateOf(b).same(stateOf(other)) {
					t.Fatalf("in mode %d, %s behind Undo leaves %v, want %v", mode, c.name, stateOf(b), stateOf(other))
				}
			}
		}
	}
}

// Promise 18.4: marks of one bank, one after the other, and back to each of them.
func TestUndoToEarlierMarks(t *testing.T) {
	for _, mode := range modes() {
		b, x, y := begun(mode)
		var states []state
		for _, c := range calls() {
			states = append(states, stateOf(b))
			c.do(b, x, y)
			if b.Err() != api.OK {
				b.Undo(states[len(states)-1].mark)
			}
		}
		for _, s := range slices.Backward(states) {
			if !b.Undo(s.mark) || !stateOf(b).same(s) {
				t.Errorf("in mode %d, Undo to %v leaves %v", mode, s.mark, stateOf(b))
			}
		}
		for _, s := range states[1:] {
			if ahead := s.mark != states[0].mark; b.Undo(s.mark) == ahead || !stateOf(b).same(states[0]) {
				t.Errorf("in mode %d, Undo to a mark ahead leaves %v", mode, stateOf(b))
			}
		}
	}
}

// numbersOf are the numbers of a mark.
func numbersOf(m *api.Mark) []*int {
	return []*int{&m.Ins, &m.Asked, &m.Met, &m.Ops, &m.Inputs}
}

// Promise 18.4: the mark of a bank that has done something.
func TestMark(t *testing.T) {
	b, _, _ := begun(api.Line)
	if m := b.Mark(); m != (api.Mark{Ins: 4, Asked: 2, Met: 2, Ops: 2, Inputs: 1}) {
		t.Error(m)
	}
	b.Fail(api.ErrStale)
	if m := b.Mark(); m != (api.Mark{Ins: 4, Asked: 2, Met: 2, Ops: 2, Inputs: 1, Err: api.ErrStale}) {
		t.Error(m)
	}
	for _, mode := range []int{api.Exact, api.Float} {
		b, x, _ := begun(mode)
		b.Less(x, x)
		m := b.Mark()
		if m.Ins != 0 || m.Asked != 0 || m.Met != 3 || m.Ops != 2 || !m.Tie || m.Err != api.OK {
			t.Error(m)
		}
	}
}

// Promise 18.4: a number that is negative or greater than the current one.
func TestUndoOutside(t *testing.T) {
	for _, mode := range modes() {
		for i := range 5 {
			for _, n := range []int{-1, 1, 2, math.MinInt, math.MaxInt} {
				for _, e := range []api.Errno{api.OK, api.ErrStale} {
					b, _, _ := begun(mode)
					b.Fail(e)
					before, m := stateOf(b), b.Mark()
					number := numbersOf(&m)[i]
					if n == -1 || n == math.MinInt || n == math.MaxInt {
						*number = n
					} else if i == 4 {
						*number = 1 + n // there was one input
					} else {
						*number += n
					}
					m.Tie, m.Err = true, api.ErrZero
					if b.Undo(m) || !stateOf(b).same(before) {
						t.Errorf("in mode %d, Undo to %v from %v leaves %v", mode, m, before.mark, stateOf(b))
					}
				}
			}
		}
	}
}

// Promise 18.4: each number of a mark, its tie and its error are restored by themselves.
func TestUndoEachField(t *testing.T) {
	for i := range 5 {
		for _, tie := range []bool{false, true} {
			for _, e := range []api.Errno{api.OK, api.ErrStale, -7} {
				b, x, y := begun(api.Line)
				before, m := stateOf(b), b.Mark()
				*numbersOf(&m)[i] = 0
				m.Tie, m.Err = tie, e
				want := state{mode: api.Line, err: e, ops: m.Ops, tie: tie, met: before.met[:m.Met], program: before.program[:m.Ins], mark: m}
				if !b.Undo(m) || !stateOf(b).same(want) {
					t.Errorf("Undo to %v leaves %v", m, stateOf(b))
				}
				if e != api.OK {
					wantBehindError(t, b, x, y)
					m.Err = api.OK
					if !b.Undo(m) || b.Err() != api.OK {
						t.Errorf("Undo to no error leaves %v", b.Err())
					}
				}
			}
		}
	}
	for _, mode := range []int{api.Exact, api.Float} {
		b, x, _ := begun(mode)
		b.Less(x, x)
		if !b.Undo(api.Mark{Met: 1, Ops: 1, Err: api.ErrBig}) || b.Tie() || b.Ops() != 1 || b.Err() != api.ErrBig || !slices.Equal(b.Met(), []bool{true}) {
			t.Errorf("Undo leaves %v", stateOf(b))
		}
		if !b.Undo(api.Mark{Tie: true}) || !b.Tie() || b.Ops() != 0 || b.Err() != api.OK || len(b.Met()) != 0 {
			t.Errorf("Undo leaves %v", stateOf(b))
		}
	}
}

// Promise 18.4: behind Undo, answers and the numbers of inputs are given out again.
func TestUndoGivesAgain(t *testing.T) {
	b := bank.New(api.Line, []bool{true, false})
	x := b.Lit(lit())
	m := b.Mark()
	for range 3 {
		y := b.Lit(lit())
		if !b.Less(x, y) || b.Less(x, y) || !same(y, ref(1)) {
			t.Errorf("the answers are %v, the input is %v", b.Met(), y)
		}
		if b.Less(x, y) || b.Err() != api.ErrOracle {
			t.Error("there is an answer more")
		}
		if !b.Undo(m) {
			t.Fatal("no Undo")
		}
	}
	b.Lit(lit())
	if !sameProgram(b.Program(), []api.Ins{{Op: 1}, {Op: 1, A: 1}}) {
		t.Error(b.Program())
	}
}

// Promise 18.4: an error, and a tie, are in a mark too.
func TestUndoToError(t *testing.T) {
	for _, mode := range modes() {
		b, x, y := begun(mode)
		m := b.Mark()
		b.Less(x, x)
		b.Fail(api.ErrStale)
		failed, before := b.Mark(), stateOf(b)
		if !b.Undo(failed) || !stateOf(b).same(before) {
			t.Errorf("Undo to an error leaves %v", stateOf(b))
		}
		wantBehindError(t, b, x, y)
		if !b.Undo(m) || b.Err() != api.OK || b.Tie() {
			t.Errorf("Undo leaves %v", stateOf(b))
		}
		b.Less(x, x)
		if !b.Undo(failed) || !stateOf(b).same(before) {
			t.Errorf("Undo to an error leaves %v", stateOf(b))
		}
	}
}

// Promise 18.4 and R4: what was returned ahead of an Undo is the same behind it and behind later calls.
func TestReturnedRemains(t *testing.T) {
	for _, mode := range modes() {
		b, x, y := begun(mode)
		m := b.Mark()
		b.Less(y, x)
		z := b.Sub(b.Lit(lit()), b.Num(-9, 7))
		z0, before := copyVal(z), stateOf(b)
		met, program := b.Met(), b.Program()
		for range 3 {
			b.Undo(m)
			for range 5 {
				b.Less(x, y)
				b.Mul(b.Num(8, 9), b.Lit(api.Lit{P: 1, Q: 4, Bits: 7}))
			}
		}
		if !same(z, z0) || !slices.Equal(met, before.met) || !sameProgram(program, before.program) {
			t.Errorf("in mode %d: %v, %v, %v, want %v, %v", mode, z, met, program, z0, before)
		}
	}
}

// scalars are different ones, some of them of a mode, with what modes they are of.
func scalars() []struct {
	x    api.Val
	mode int // -1 if it is of none
} {
	return []struct {
		x    api.Val
		mode int
	}{
		{rat("0"), api.Exact}, {rat("1"), api.Exact}, {rat("-1"), api.Exact}, {rat("2/3"), api.Exact}, {rat("3/2"), api.Exact}, {api.Val{Rat: power2(513, 1)}, api.Exact},
		{api.Val{Rat: inverse(power2(5000, 1))}, api.Exact},
		{word(1), api.Float}, {word(sign), api.Float}, {double(1), api.Float}, {word(infinity), api.Float}, {word(infinity | sign), api.Float}, {word(nan), api.Float}, {word(greatest), api.Float},
		{word(nan + 1), -1}, {word(nan | sign), -1}, {word(infinity + 1), -1}, {word(top), -1}, {word(0x7ff7ffffffffffff), -1},
		{ref(1), api.Line}, {ref(65535), api.Line}, {ref(65536), api.Line}, {ref(math.MaxInt), api.Line},
		{ref(-1), -1}, {ref(math.MinInt), -1},
		{api.Val{Rat: num("1"), Bits: 1}, -1}, {api.Val{Rat: num("0"), Bits: 1}, -1}, {api.Val{Rat: num("1"), Ref: 1}, -1}, {api.Val{Rat: num("1"), Ref: -1}, -1},
		{api.Val{Rat: num("1"), Bits: sign}, -1}, {api.Val{Bits: 1, Ref: 1}, -1}, {api.Val{Bits: 1, Ref: -1}, -1}, {api.Val{Bits: sign, Ref: 2}, -1}, {api.Val{Rat: num("1"), Bits: 1, Ref: 1}, -1},
		{api.Val{Rat: api.Rat{Neg: true}}, -1}, {api.Val{Rat: api.Rat{Num: []uint64{1}}}, -1}, {api.Val{Rat: api.Rat{Num: []uint64{0}}}, -1}, {api.Val{Rat: api.Rat{Den: []uint64{0}}}, -1},
		{api.Val{Rat: api.Rat{Neg: true, Den: []uint64{1}}}, -1}, {api.Val{Rat: api.Rat{Num: []uint64{2}, Den: []uint64{4}}}, -1}, {api.Val{Rat: api.Rat{Num: []uint64{1}, Den: []uint64{1, 0}}}, -1},
		{api.Val{Rat: api.Rat{Num: []uint64{1, 0}, Den: []uint64{1}}}, -1}, {api.Val{Rat: api.Rat{Den: []uint64{2}}}, -1}, {api.Val{Rat: api.Rat{Neg: true}, Bits: 1}, -1},
		{api.Val{Rat: api.Rat{Num: []uint64{0}, Den: []uint64{1}}}, -1}, {api.Val{Rat: api.Rat{Neg: true}, Ref: 1}, -1}, {api.Val{Rat: api.Rat{Den: []uint64{1}}, Bits: nan}, -1},
	}
}

// Promise 18.4: whether a scalar is one of a mode.
func TestRight(t *testing.T) {
	for _, c := range scalars() {
		for _, mode := range modes() {
			if got := bank.Right(mode, c.x); got != (mode == c.mode) {
				t.Errorf("Right(%d, %v) = %v", mode, c.x, got)
			}
		}
	}
	// The zero scalar, also with empty lists that are not nil (R3), is the double 0 and the instruction 0.
	for _, x := range []api.Val{{}, {Rat: api.Rat{Num: []uint64{}, Den: []uint64{}}}, {Rat: api.Rat{Num: withSpare([]uint64{}, 7)}}} {
		if bank.Right(api.Exact, x) || !bank.Right(api.Float, x) || !bank.Right(api.Line, x) {
			t.Errorf("%v is %v, %v, %v", x, bank.Right(api.Exact, x), bank.Right(api.Float, x), bank.Right(api.Line, x))
		}
	}
	for _, mode := range []int{-1, 3, 4, math.MinInt, math.MaxInt, 256, 1 << 32} {
		for _, c := range append(scalars(), scalars()[0]) {
			if bank.Right(mode, c.x) || bank.Right(mode, api.Val{}) {
				t.Errorf("%v is of the mode %d", c.x, mode)
			}
		}
	}
}

// Promise 18.4: what a bank returns is of its mode.
func TestResultsAreRight(t *testing.T) {
	for _, mode := range modes() {
		b, x, y := begun(mode)
		for i, o := range operations() {
			if got := o.do(b, x, y); mode != api.Exact && !bank.Right(mode, got) || mode == api.Exact && i < 5 && !bank.Right(mode, got) {
				t.Errorf("Op %d in mode %d is %v", o.op, mode, got)
			}
		}
		if !bank.Right(mode, x) || !bank.Right(mode, y) {
			t.Errorf("numbers in mode %d are %v and %v", mode, x, y)
		}
	}
}

// Promise 18.4: Same, field by field and word by word.
func TestSame(t *testing.T) {
	for i, a := range scalars() {
		for k, c := range scalars() {
			if got := bank.Same(a.x, c.x); got != (i == k) {
				t.Errorf("Same(%v, %v) = %v", a.x, c.x, got)
			}
		}
		if bank.Same(a.x, api.Val{}) || bank.Same(api.Val{}, a.x) {
			t.Errorf("%v is the zero scalar", a.x)
		}
	}
	// Empty lists are the same, nil or not (R3).
	if !bank.Same(api.Val{}, api.Val{Rat: api.Rat{Num: []uint64{}, Den: []uint64{}}}) || !bank.Same(rat("0"), api.Val{Rat: api.Rat{Num: []uint64{}, Den: []uint64{1}}}) {
		t.Error("empty lists differ")
	}
	if !bank.Same(api.Val{Rat: num("1"), Bits: nan, Ref: -3}, api.Val{Rat: num("1"), Bits: nan, Ref: -3}) {
		t.Error("equal fields differ")
	}
}

// Promise 18.4: Fits counts the bits above and below the line, and those alone.
func TestFits(t *testing.T) {
	short := []api.Rat{num("0"), num("1"), num("-5/7"), power2(511, 0), power2(511, 1), power2(512, -1)}
	long := []api.Rat{power2(512, 0), power2(512, 1), power2(513, -1), power2(4096, 3), power2(65536, 0)}
	for _, negative := range []bool{false, true} {
		for _, x := range short {
			x.Neg = negative
			if !bank.Fits(api.Val{Rat: x}) || !bank.Fits(api.Val{Rat: inverse(x)}) && len(x.Num) > 0 {
				t.Errorf("%v does not fit", x)
			}
		}
		for _, x := range long {
			x.Neg = negative
			if bank.Fits(api.Val{Rat: x}) || bank.Fits(api.Val{Rat: inverse(x)}) {
				t.Errorf("%v fits", x)
			}
		}
	}
	both := exact(new(big.Rat).SetFrac(value(power2(512, -1)).Num(), value(power2(511, 0)).Num()))
	if !bank.Fits(api.Val{Rat: both}) {
		t.Error("two parts of 512 bits do not fit")
	}
	for _, x := range []api.Val{{}, word(top), word(greatest), ref(math.MaxInt), ref(-1)} {
		if !bank.Fits(x) {
			t.Errorf("%v does not fit", x)
		}
	}
}

// copyVal is a scalar in memory of its own, with what is behind the ends of its lists.
func copyVal(x api.Val) api.Val {
	x.Rat = copyNum(x.Rat)
	return x
}

func copyNum(x api.Rat) api.Rat {
	num, den := slices.Clone(x.Num[:cap(x.Num)]), slices.Clone(x.Den[:cap(x.Den)])
	return api.Rat{Neg: x.Neg, Num: num[:len(x.Num)], Den: den[:len(x.Den)]}
}

// unchanged reports whether a scalar is like its copy, behind the ends of its lists too.
func unchanged(x, was api.Val) bool {
	whole := func(a []uint64) []uint64 { return a[:cap(a)] }
	return same(x, was) && slices.Equal(whole(x.Rat.Num), whole(was.Rat.Num)[:cap(x.Rat.Num)]) && slices.Equal(whole(x.Rat.Den), whole(was.Rat.Den)[:cap(x.Rat.Den)])
}

// overwrite changes all words of a number, and behind the ends of its lists.
func overwrite(x api.Rat) {
	for _, a := range [][]uint64{x.Num, x.Den} {
		for i := range a[:cap(a)] {
			a[:cap(a)][i] ^= top
		}
	}
}

// Promise 18.4 and R4: a copy has equal fields and memory of its own.
func TestCopy(t *testing.T) {
	empty := api.Val{Rat: api.Rat{Num: withSpare([]uint64{}, 7), Den: withSpare([]uint64{}, 8)}}
	list := []api.Val{{}, empty, {Rat: num("-7/3"), Bits: 5, Ref: -6}}
	for _, c := range scalars() {
		list = append(list, c.x)
	}
	for _, x := range list {
		x0 := copyVal(x)
		y, z := bank.Copy(x), bank.Copy(x)
		if !same(y, x) {
			t.Errorf("Copy(%v) = %v", x, y)
		}
		overwrite(y.Rat)
		if !unchanged(x, x0) || !same(z, x0) {
			t.Errorf("%v changed with its copy", x0)
		}
		overwrite(x.Rat)
		if !same(z, x0) {
			t.Errorf("a copy of %v changed with it", x0)
		}
	}
	shared := []uint64{1}
	y := bank.Copy(api.Val{Rat: api.Rat{Num: shared, Den: shared}})
	y.Rat.Num[0] = 5
	if y.Rat.Den[0] != 1 || shared[0] != 1 {
		t.Error("a copy's lists are one")
	}
}

// Promise 18.1 and R4: a bank keeps what it was given and shows what it has as copies.
func TestBankIsApart(t *testing.T) {
	asks := withSpare([]bool{true, false, true}, true)
	b := bank.New(api.Line, asks)
	for i := range asks {
		asks[i] = !asks[i]
	}
	asks0 := slices.Clone(asks[:cap(asks)])
	x, y := b.Num(-2, 3), b.Num(5, 1)
	if !b.Less(x, y) || b.Less(x, y) || !b.Less(x, y) {
		t.Error("the answers changed with the list that was given")
	}
	if !slices.Equal(asks[:cap(asks)], asks0) {
		t.Errorf("the list that was given became %v", asks[:cap(asks)])
	}
	before := stateOf(b)
	met, program := b.Met(), b.Program()
	for i := range met {
		met[i] = !met[i]
	}
	for i := range program {
		overwrite(program[i].Num)
		program[i] = api.Ins{Op: 9, A: 99}
	}
	met, program = append(met, true), append(program, api.Ins{})
	if !stateOf(b).same(before) || len(met) != 4 || len(program) != 3 {
		t.Errorf("the bank changed with what it returned: %v", stateOf(b))
	}
	b.Neg(x)
	if want := append(before.program, api.Ins{Op: 3}); !sameProgram(b.Program(), want) {
		t.Errorf("the program is %v, want %v", b.Program(), want)
	}
}

// R4: no call changes its operands, and each result is new memory.
func TestOperandsAndResultsAreApart(t *testing.T) {
	for _, s := range []string{"0", "1", "-1", "5", "-2/3", "18446744073709551617/5"} {
		for _, u := range []string{"0", "1", "-1", "5", "-2/3"} {
			b := bank.New(api.Exact, nil)
			x, y := rat(s), rat(u)
			x0, y0 := copyVal(x), copyVal(y)
			var results, copies []api.Val
			keep := func(v api.Val) {
				results, copies = append(results, v), append(copies, copyVal(v))
			}
			for range 2 {
				for i, o := range operations()[:5] {
					if i < 4 || u != "0" {
						keep(o.do(b, x, y))
						keep(o.do(b, x, rat("1")))
					}
				}
				keep(b.Num(5, 1))
				keep(b.Lit(lit()))
				b.Less(x, y)
			}
			if !unchanged(x, x0) || !unchanged(y, y0) {
				t.Fatalf("%s and %s became %v and %v", s, u, x, y)
			}
			for i, v := range results {
				if !same(v, copies[i]) {
					t.Fatalf("result %d changed from %v to %v", i, copies[i], v)
				}
				overwrite(v.Rat)
			}
			if !unchanged(x, x0) || !unchanged(y, y0) {
				t.Fatalf("%s and %s changed with results", s, u)
			}
			overwrite(x.Rat)
			overwrite(y.Rat)
			if b.Err() != api.OK || !same(b.Num(5, 1), rat("5")) {
				t.Fatal("the bank changed with its results")
			}
		}
	}
}

// Promise 18.4 and R4: questions about scalars do not change them.
func TestQuestionsChangeNothing(t *testing.T) {
	for _, c := range scalars() {
		for _, d := range scalars() {
			x, y := c.x, d.x
			x0, y0 := copyVal(x), copyVal(y)
			bank.Same(x, y)
			bank.Fits(x)
			for _, mode := range modes() {
				bank.Right(mode, x)
			}
			if !unchanged(x, x0) || !unchanged(y, y0) {
				t.Fatalf("%v and %v became %v and %v", x0, y0, x, y)
			}
		}
	}
}

// R1: scalars that are not valid for a mode, in each call.
func TestNotValid(t *testing.T) {
	for _, mode := range modes() {
		for _, c := range scalars() {
			for _, d := range scalars() {
				b, _, _ := begun(mode)
				m := b.Mark()
				for _, o := range operations() {
					o.do(b, c.x, d.x)
					b.Undo(m)
				}
				b.Less(c.x, d.x)
			}
		}
	}
}

// step is a step of a script of calls: its kind, the results it is about, and what a number is.
type step struct {
	kind, i, j, p, q int
	bits             uint64
}

const (
	litStep = iota
	numStep
	lessStep
	undoStep
	firstOperation
)

// scriptOf is a random script, with forms or without them; each of its steps has one result.
func scriptOf(r *rand.Rand, n int, forms bool) []step {
	list := make([]step, n)
	ops := 5
	if forms {
		ops = 8
	}
	for k := range list {
		s := step{kind: r.Intn(firstOperation + ops), p: r.Intn(9) - 4, q: 1 + r.Intn(5), bits: r.Uint64()}
		if r.Intn(3) > 0 {
			s.bits = math.Float64bits(float64(s.p) / float64(s.q))
		}
		if k == 0 {
			s.kind = litStep
		} else {
			s.i, s.j = r.Intn(k), r.Intn(k)
		}
		list[k] = s
	}
	return list
}

// play does a script with a bank and returns the results, and false if there was an error; what is called depends on comparisons.
func play(b *bank.Bank, script []step) ([]api.Val, bool) {
	var vals []api.Val
	for _, s := range script {
		var v api.Val
		switch s.kind {
		case litStep:
			v = b.Lit(api.Lit{P: s.p, Q: s.q, Bits: s.bits})
		case numStep:
			v = b.Num(s.p, s.q)
		case lessStep:
			if b.Less(vals[s.i], vals[s.j]) {
				v = b.Sub(vals[s.j], vals[s.i])
			} else {
				v = b.Add(vals[s.i], vals[s.i])
			}
		case undoStep:
			m := b.Mark()
			b.Less(vals[s.i], b.Lit(lit()))
			b.Mul(vals[s.j], b.Num(s.p, s.q))
			b.Undo(m)
			v = b.Neg(vals[s.i])
		default:
			v = operations()[s.kind-firstOperation].do(b, vals[s.i], vals[s.j])
		}
		if b.Err() != api.OK {
			return nil, false
		}
		vals = append(vals, v)
	}
	return vals, true
}

// evaluated is the values of a program for the numbers that a script has.
func evaluated(mode int, program []api.Ins, script []step) ([]api.Val, api.Errno) {
	var in []api.Rat
	var bits []uint64
	for _, s := range script {
		if s.kind == litStep {
			in, bits = append(in, exact(fraction(s.p, s.q))), append(bits, s.bits)
		}
	}
	var out []api.Val
	if mode == api.Exact {
		vals, _, e := evals.Exact(program, in, nil)
		for _, v := range vals {
			out = append(out, api.Val{Rat: v})
		}
		return out, e
	}
	vals, _, e := evals.Float(program, bits)
	for _, v := range vals {
		out = append(out, word(v))
	}
	return out, e
}

// Promise 18.5: what a bank of mode Line writes, given the results of the comparisons, has the values that the same calls return.
func TestProgramHasTheValues(t *testing.T) {
	r := rand.New(rand.NewSource(1))
	for _, mode := range []int{api.Exact, api.Float} {
		played, compared := 0, 0
		for range 4000 {
			script := scriptOf(r, 1+r.Intn(16), mode == api.Float)
			b := bank.New(mode, nil)
			vals, ok := play(b, script)
			if !ok {
				continue
			}
			c := bank.New(api.Line, b.Met())
			refs, ok := play(c, script)
			if !ok || !line.Right(c.Program()) || !slices.Equal(c.Met(), b.Met()) || c.Ops() != b.Ops() || c.Mark().Asked != len(b.Met()) {
				t.Fatalf("%v: %v, %v and %v", script, c.Err(), stateOf(b), stateOf(c))
			}
			got, e := evaluated(mode, c.Program(), script)
			if e == api.ErrBig {
				continue
			}
			for k, v := range vals {
				if e != api.OK || !same(got[refs[k].Ref], v) {
					t.Fatalf("%v: result %d is %v, and evaluated %v, %v", script, k, v, got, e)
				}
			}
			played++
			compared += len(b.Met())
		}
		if played < 1500 || compared < 1500 {
			t.Errorf("in mode %d there are only %d scripts with %d comparisons", mode, played, compared)
		}
	}
}

// Promise 18.5, written out: a comparison decides what is written.
func TestAnswersDecide(t *testing.T) {
	script := []step{{kind: litStep, p: 1, q: 2, bits: 0x3fe0000000000000}, {kind: numStep, p: 3, q: 1}, {kind: lessStep, i: 0, j: 1}, {kind: lessStep, i: 1, j: 0}}
	for _, mode := range []int{api.Exact, api.Float} {
		b := bank.New(mode, nil)
		vals, ok := play(b, script)
		if want := [][]api.Val{{rat("1/2"), rat("3"), rat("5/2"), rat("6")}, {double(0.5), double(3), double(2.5), double(6)}}[mode]; !ok || !slices.EqualFunc(vals, want, same) {
			t.Errorf("the results are %v", vals)
		}
		if !slices.Equal(b.Met(), []bool{true, false}) || b.Tie() || b.Ops() != 2 {
			t.Errorf("the bank has %v", stateOf(b))
		}
	}
	c := bank.New(api.Line, []bool{true, false})
	play(c, script)
	if want := []api.Ins{{Op: 1}, {Op: 2, Num: num("3")}, {Op: 5, A: 1, B: 0}, {Op: 4, A: 1, B: 1}}; !sameProgram(c.Program(), want) {
		t.Errorf("the program is %v", c.Program())
	}
}

// R5: what a bank does depends on its own calls only.
func TestBanksAreApart(t *testing.T) {
	for _, mode := range modes() {
		b, x, y := begun(mode)
		before := stateOf(b)
		other, _, _ := begun(mode)
		for _, c := range calls() {
			c.do(other, x, y)
		}
		if !stateOf(b).same(before) {
			t.Errorf("a bank of mode %d changed with another one", mode)
		}
		fresh, _, _ := begun(mode)
		if !stateOf(fresh).same(before) {
			t.Errorf("a new bank of mode %d has %v", mode, stateOf(fresh))
		}
	}
}
