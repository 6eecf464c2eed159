package line_test

import (
	"math"
	"math/big"
	"math/rand"
	"slices"
	"strconv"
	"testing"

	"gradine/api"
	"gradine/line"
)

const top = 1<<64 - 1

// op is an Op as the document names it.
type op struct {
	op, arity int
	word      string
	form      bool
}

func ops() []op {
	return []op{
		{1, 0, "input", false}, {2, 0, "const", false}, {3, 1, "neg", false}, {4, 2, "add", false}, {5, 2, "sub", false},
		{6, 2, "mul", false}, {7, 2, "div", false}, {8, 1, "sqrt", true}, {9, 1, "exp", true}, {10, 1, "log", true},
	}
}

// withOperands are the Ops that have n operands.
func withOperands(n int) []int {
	var out []int
	for _, o := range ops() {
		if o.arity == n {
			out = append(out, o.op)
		}
	}
	return out
}

// noOps are numbers that are no Op.
func noOps() []int {
	return []int{0, -1, -2, -10, 11, 12, 13, 64, 255, 256, 257, 266, 1 << 16, 1<<16 + 1, 1 << 32, 1<<32 + 1, 1<<63 - 1, math.MinInt, math.MinInt + 1, -1 << 32}
}

// farOut are numbers far from those of any instruction.
func farOut() []int {
	return []int{math.MinInt, math.MinInt + 1, -1 << 32, -65536, 65535, 65536, 65537, 1 << 32, math.MaxInt - 1, math.MaxInt}
}

// withSpare is a copy of a list with capacity behind it that a function could overwrite.
func withSpare[T any](a []T, spare T) []T {
	b := slices.Clone(a)
	for range 4 {
		b = append(b, spare)
	}
	return b[:len(a)]
}

// list is the normalized list of a number without its sign.
func list(n *big.Int) []uint64 {
	var a []uint64
	for _, w := range n.Bits() {
		a = append(a, uint64(w))
	}
	return withSpare(a, 0x5ca1ab1e)
}

// num is the exact number of a text, by a way that does not use the program.
func num(s string) api.Rat {
	v, ok := new(big.Rat).SetString(s)
	if !ok {
		panic(s)
	}
	return api.Rat{Neg: v.Sign() < 0, Num: list(v.Num()), Den: list(v.Denom())}
}

func input(n int) api.Ins {
	return api.Ins{Op: 1, A: n}
}

func constant(s string) api.Ins {
	return api.Ins{Op: 2, Num: num(s)}
}

func one(op, a int) api.Ins {
	return api.Ins{Op: op, A: a}
}

func two(op, a, b int) api.Ins {
	return api.Ins{Op: op, A: a, B: b}
}

// badNums are no valid exact numbers.
func badNums() []api.Rat {
	return []api.Rat{
		{}, {Neg: true}, {Num: []uint64{}, Den: []uint64{}}, {Num: []uint64{1}}, {Num: []uint64{1}, Den: []uint64{0}},
		{Num: []uint64{2}, Den: []uint64{4}}, {Num: []uint64{0}, Den: []uint64{1}}, {Neg: true, Den: []uint64{1}},
		{Num: []uint64{1, 0}, Den: []uint64{1}}, {Num: []uint64{1}, Den: []uint64{1, 0}}, {Den: []uint64{2}},
		{Num: []uint64{0, 3}, Den: []uint64{0, 2}}, {Neg: true, Num: []uint64{6}, Den: []uint64{3}}, {Num: []uint64{top, top}, Den: []uint64{top}},
	}
}

// goodNums are texts of valid exact numbers.
func goodNums() []string {
	return []string{"0", "1", "-1", "2", "1/2", "-3/7", "18446744073709551616", "-1/18446744073709551616", "340282366920938463463374607431768211457/18446744073709551615"}
}

// example is the document's example.
func example() []api.Ins {
	return []api.Ins{input(0), constant("2"), two(6, 0, 1), one(3, 0)}
}

// chain is a program of n instructions in which each one depends on the one before it.
func chain(n int) []api.Ins {
	l := make([]api.Ins, n)
	for i := range l {
		if i == 0 {
			l[i] = input(0)
		} else if i%3 == 0 {
			l[i] = two(4+i%4, i-1, i-1)
		} else {
			l[i] = one([]int{3, 8, 9, 10}[i%4], i-1)
		}
	}
	return l
}

// randomProgram is a program of n instructions.
func randomProgram(r *rand.Rand, n int) []api.Ins {
	l := make([]api.Ins, n)
	for i := range l {
		o := ops()[r.Intn(10)]
		switch {
		case o.op == 1 || o.arity > 0 && i == 0:
			l[i] = input([]int{r.Intn(5), r.Intn(65536), 65535}[r.Intn(3)])
		case o.op == 2:
			l[i] = constant(goodNums()[r.Intn(len(goodNums()))])
		case o.arity == 1:
			l[i] = one(o.op, r.Intn(i))
		default:
			l[i] = two(o.op, r.Intn(i), r.Intn(i))
		}
	}
	return l
}

func sameNum(a, b api.Rat) bool {
	return a.Neg == b.Neg && slices.Equal(a.Num, b.Num) && slices.Equal(a.Den, b.Den)
}

func sameIns(a, b api.Ins) bool {
	return a.Op == b.Op && a.A == b.A && a.B == b.B && sameNum(a.Num, b.Num)
}

func sameProgram(a, b []api.Ins) bool {
	return slices.EqualFunc(a, b, sameIns)
}

// Promise 15.1.
func TestOps(t *testing.T) {
	for _, o := range ops() {
		if got := line.Arity(o.op); got != o.arity {
			t.Errorf("Arity(%d) = %d, want %d", o.op, got, o.arity)
		}
		if got := line.Word(o.op); got != o.word {
			t.Errorf("Word(%d) = %q, want %q", o.op, got, o.word)
		}
		if got := line.Form(o.op); got != o.form {
			t.Errorf("Form(%d) = %v, want %v", o.op, got, o.form)
		}
	}
}

// Promises 15.1 and 15.2: numbers that are no Op, just outside and far out.
func TestNoOps(t *testing.T) {
	for _, n := range noOps() {
		if a, w, f := line.Arity(n), line.Word(n), line.Form(n); a != -1 || w != "" || f {
			t.Errorf("%d has the arity %d, the word %q and the form %v", n, a, w, f)
		}
		for _, x := range []api.Ins{{Op: n}, {Op: n, A: 1, B: 2}, {Op: n, Num: num("3")}} {
			l := []api.Ins{input(0), input(1), input(2), x}
			if line.Right(l) {
				t.Errorf("%v is in a program", x)
			}
			if got := line.Show(x); got != "?" {
				t.Errorf("Show(%v) = %q", x, got)
			}
			if i, c, f := line.Inputs(l), line.Counts(l), line.Forms(l); i != 3 || c != 0 || f != 0 {
				t.Errorf("with %v there are %d inputs, %d operations and %d forms", x, i, c, f)
			}
		}
	}
}

// place is lists around an instruction: with nothing behind it, and with instructions behind it, which are no operands either.
func place(x api.Ins, before int) [][]api.Ins {
	l := make([]api.Ins, 0, before+4)
	for i := range before {
		l = append(l, input(i))
	}
	l = append(l, x)
	return [][]api.Ins{l, append(slices.Clone(l), input(0)), append(slices.Clone(l), input(0), constant("1/3"), input(7))}
}

func wantRight(t *testing.T, x api.Ins, before int, want bool) {
	t.Helper()
	for _, l := range place(x, before) {
		if got := line.Right(l); got != want {
			t.Errorf("%v as instruction %d of %d: Right = %v", x, before, len(l), got)
		}
	}
}

// Promise 15.1: operands are numbers of earlier instructions.
func TestRightOperands(t *testing.T) {
	for before := range 5 {
		near := []int{-3, -2, -1, 0, 1, 2, 3, 4, 5, 6, 7, 8, 9}
		for _, a := range append(near, farOut()...) {
			early := 0 <= a && a < before
			for _, op := range withOperands(1) {
				wantRight(t, one(op, a), before, early)
			}
			for _, op := range withOperands(2) {
				for b := range before {
					wantRight(t, two(op, a, b), before, early)
					wantRight(t, two(op, b, a), before, early)
				}
				wantRight(t, two(op, a, a), before, early)
			}
		}
	}
}

// Promise 15.1: the numbers of inputs, which say nothing about other instructions.
func TestRightInputNumbers(t *testing.T) {
	for _, n := range append(farOut(), -2, -1, 0, 1, 2, 100, 65534) {
		for before := range 3 {
			wantRight(t, input(n), before, 0 <= n && n < 65536)
		}
	}
}

// Promise 15.1: fields that an Op does not use are zero.
func TestRightOtherFields(t *testing.T) {
	others := []api.Rat{
		num("1"), num("0"), num("-5/3"), {Neg: true}, {Num: []uint64{0}}, {Den: []uint64{0}}, {Num: []uint64{7}}, {Den: []uint64{1}},
		{Neg: true, Num: []uint64{}, Den: []uint64{}}, {Num: []uint64{}, Den: []uint64{0, 0}},
	}
	for _, x := range []api.Ins{input(1), one(3, 1), two(4, 1, 1), two(5, 1, 1), two(6, 1, 1), two(7, 1, 1), one(8, 1), one(9, 1), one(10, 1)} {
		wantRight(t, x, 3, true)
		for _, v := range others {
			x.Num = v
			wantRight(t, x, 3, false)
		}
	}
	for _, b := range append(farOut(), -1, 1, 2, 3) {
		wantRight(t, two(1, 1, b), 3, false)
		for _, op := range withOperands(1) {
			wantRight(t, two(op, 1, b), 3, false)
		}
		for _, x := range []api.Ins{{Op: 2, A: b, Num: num("1/2")}, {Op: 2, B: b, Num: num("1/2")}, {Op: 2, A: b, B: b, Num: num("0")}} {
			wantRight(t, x, 3, false)
		}
	}
}

// Promise 15.1 and R3: an empty list may be nil or not, so a Num of two of them is zero.
func TestRightEmptyLists(t *testing.T) {
	for _, x := range []api.Ins{input(1), one(3, 1), two(4, 1, 2), two(5, 1, 2), two(6, 1, 2), two(7, 1, 2), one(8, 1), one(9, 1), one(10, 1)} {
		for _, v := range []api.Rat{{}, {Num: []uint64{}}, {Den: []uint64{}}, {Num: []uint64{}, Den: []uint64{}}, {Num: withSpare([]uint64{}, 9), Den: withSpare([]uint64{}, 9)}} {
			x.Num = v
			wantRight(t, x, 3, true)
		}
	}
	wantRight(t, api.Ins{Op: 2, Num: api.Rat{Num: []uint64{}, Den: []uint64{1}}}, 3, true)
	wantRight(t, api.Ins{Op: 2, Num: api.Rat{Den: []uint64{1}}}, 3, true)
}

// Promise 15.1: the Num of a const is a valid exact number.
func TestRightConsts(t *testing.T) {
	for _, v := range badNums() {
		wantRight(t, api.Ins{Op: 2, Num: v}, 0, false)
		wantRight(t, api.Ins{Op: 2, Num: v}, 3, false)
	}
	for _, s := range goodNums() {
		wantRight(t, constant(s), 0, true)
		wantRight(t, constant(s), 3, true)
	}
}

// Promise 15.1: how long programs are, and that each of their instructions counts.
func TestRightLengths(t *testing.T) {
	if !line.Right(nil) || !line.Right([]api.Ins{}) {
		t.Error("no instructions are no program")
	}
	if !line.Right(chain(65535)) || !line.Right(chain(65536)) {
		t.Error("65535 or 65536 instructions are no program")
	}
	if line.Right(chain(65537)) || line.Right(chain(70000)) || line.Right(make([]api.Ins, 65537)) {
		t.Error("65537 or 70000 instructions are a program")
	}
	for _, at := range []int{0, 1, 30000, 65534, 65535} {
		l := chain(65536)
		l[at].Op = 11
		if line.Right(l) {
			t.Errorf("instruction %d of 65536 is not looked at", at)
		}
	}
}

// Promise 15.2: of inputs, those that a program may have, also where there is no program.
func TestInputs(t *testing.T) {
	for _, c := range []struct {
		l    []api.Ins
		want int
	}{
		{nil, 0},
		{[]api.Ins{}, 0},
		{[]api.Ins{input(0)}, 1},
		{[]api.Ins{input(-1)}, 0},
		{[]api.Ins{input(65535)}, 65536},
		{[]api.Ins{input(65534)}, 65535},
		{[]api.Ins{input(65536)}, 0},
		{[]api.Ins{input(math.MaxInt), input(math.MinInt)}, 0},
		{[]api.Ins{input(3), input(65536), input(math.MaxInt)}, 4},
		{[]api.Ins{input(65536), input(2)}, 3},
		{[]api.Ins{input(5), input(2)}, 6},
		{[]api.Ins{input(2), input(5)}, 6},
		{[]api.Ins{input(2), input(5), input(5), input(4), input(-1)}, 6},
		{[]api.Ins{constant("9")}, 0},
		{[]api.Ins{{Op: 2, A: 9}, one(3, 9), two(4, 9, 8), two(5, 9, 8), two(6, 9, 8), two(7, 9, 8), one(8, 9), one(9, 9), one(10, 9), {A: 9}, {Op: 11, A: 9}}, 0},
		{[]api.Ins{{Op: 1, A: 1, B: 7, Num: num("6")}}, 2},
		{example(), 1},
		{chain(65537), 1},
	} {
		if got := line.Inputs(c.l); got != c.want {
			t.Errorf("Inputs(%d instructions) = %d, want %d", len(c.l), got, c.want)
		}
	}
}

// Promise 15.2: what any instructions count, whether they are a program or not.
func TestCountsAndForms(t *testing.T) {
	var all []api.Ins
	counts, forms := 0, 0
	for range 3 {
		for _, o := range ops() {
			all = append(all, api.Ins{Op: o.op, A: math.MinInt, B: math.MaxInt, Num: api.Rat{Neg: true}}, api.Ins{Op: -o.op}, api.Ins{Op: o.op + 10})
			if o.arity > 0 {
				counts++
			}
			if o.form {
				forms++
			}
			if c, f := line.Counts(all), line.Forms(all); c != counts || f != forms {
				t.Errorf("%d instructions have %d operations and %d forms, want %d and %d", len(all), c, f, counts, forms)
			}
		}
	}
	if counts != 24 || forms != 9 {
		t.Error(counts, forms)
	}
	for _, l := range [][]api.Ins{nil, {}, {input(0), constant("1")}, make([]api.Ins, 70000)} {
		if c, f := line.Counts(l), line.Forms(l); c != 0 || f != 0 {
			t.Errorf("%d instructions have %d operations and %d forms", len(l), c, f)
		}
	}
	if c, f := line.Counts(chain(70000)), line.Forms(chain(70000)); c != 69999 || f == 0 || f >= 69999 {
		t.Errorf("a chain has %d operations and %d forms", c, f)
	}
}

// Promise 15.2.
func TestShow(t *testing.T) {
	for _, c := range []struct {
		x    api.Ins
		want string
	}{
		{input(0), "input 0"},
		{input(65535), "input 65535"},
		{input(-1), "input -1"},
		{input(math.MinInt), "input -9223372036854775808"},
		{api.Ins{Op: 1, A: 3, B: 4, Num: num("5")}, "input 3"},
		{constant("2"), "const 2"},
		{constant("0"), "const 0"},
		{constant("-1/2"), "const -1/2"},
		{constant("340282366920938463463374607431768211457/18446744073709551615"), "const 340282366920938463463374607431768211457/18446744073709551615"},
		{api.Ins{Op: 2, A: 3, B: 4, Num: num("-7")}, "const -7"},
		{one(3, 0), "neg 0"},
		{two(4, 0, 1), "add 0 1"},
		{two(5, 10, 20), "sub 10 20"},
		{two(6, 7, 7), "mul 7 7"},
		{two(7, 1, 0), "div 1 0"},
		{one(8, 65535), "sqrt 65535"},
		{one(9, 12), "exp 12"},
		{one(10, 3), "log 3"},
		{api.Ins{Op: 3, A: 5, B: 6, Num: num("7")}, "neg 5"},
		{api.Ins{Op: 8, A: -5, B: 6}, "sqrt -5"},
		{api.Ins{Op: 9, A: math.MaxInt, B: 6}, "exp 9223372036854775807"},
		{api.Ins{Op: 10, A: math.MinInt, B: -6}, "log -9223372036854775808"},
		{api.Ins{Op: 4, A: math.MaxInt, B: math.MinInt, Num: num("7")}, "add 9223372036854775807 -9223372036854775808"},
		{api.Ins{}, "?"},
	} {
		if got := line.Show(c.x); got != c.want {
			t.Errorf("Show(%v) = %q, want %q", c.x, got, c.want)
		}
	}
	for n := -1; n < 11; n++ {
		for _, o := range ops() {
			want := o.word + " " + strconv.Itoa(n)
			if o.arity == 2 {
				want += " " + strconv.Itoa(100-n)
			}
			if got := line.Show(two(o.op, n, 100-n)); o.op != 2 && got != want {
				t.Errorf("Show = %q, want %q", got, want)
			}
		}
	}
}

// needed is what outs depend on, by a way that follows the operands from each of outs.
func needed(l []api.Ins, outs []int) []bool {
	out := make([]bool, len(l))
	work := slices.Clone(outs)
	for len(work) > 0 {
		i := work[0]
		work = work[1:]
		if i < 0 || i >= len(l) || out[i] {
			continue
		}
		out[i] = true
		switch l[i].Op {
		case 3, 8, 9, 10:
			work = append(work, l[i].A)
		case 4, 5, 6, 7:
			work = append(work, l[i].A, l[i].B)
		}
	}
	return out
}

// rank is the number of instructions before i that are needed.
func rank(need []bool, i int) int {
	n := 0
	for _, b := range need[:i] {
		if b {
			n++
		}
	}
	return n
}

// trimmed is what Trim returns, by a way that counts the needed instructions before each one.
func trimmed(l []api.Ins, outs []int) ([]api.Ins, []int) {
	need := needed(l, outs)
	var kept []api.Ins
	for i, x := range l {
		if !need[i] {
			continue
		}
		if x.Op >= 3 {
			x.A = rank(need, x.A)
		}
		if x.Op >= 4 && x.Op <= 7 {
			x.B = rank(need, x.B)
		}
		kept = append(kept, x)
	}
	at := make([]int, len(outs))
	for k, i := range outs {
		at[k] = -1
		if i >= 0 && i < len(l) {
			at[k] = rank(need, i)
		}
	}
	return kept, at
}

// checkTrim holds Needs and Trim to 15.3 and 15.4 for one program.
func checkTrim(t *testing.T, l []api.Ins, outs []int) {
	t.Helper()
	if got := line.Needs(l, outs); !slices.Equal(got, needed(l, outs)) {
		t.Errorf("Needs of %d instructions for %v = %v", len(l), outs, got)
	}
	p, at := line.Trim(l, outs)
	wantP, wantAt := trimmed(l, outs)
	if !sameProgram(p, wantP) || !slices.Equal(at, wantAt) {
		t.Errorf("Trim of %d instructions for %v has %d of them, at %v", len(l), outs, len(p), at)
	}
	if !line.Right(p) {
		t.Errorf("Trim of %d instructions for %v is no program", len(l), outs)
	}
	again, atAgain := line.Trim(p, at)
	if !sameProgram(again, p) || !slices.Equal(atAgain, at) {
		t.Errorf("trimmed again, %d instructions for %v are other ones", len(p), at)
	}
}

// Promise 15.3, written out.
func TestTrimExamples(t *testing.T) {
	for _, c := range []struct {
		outs, at []int
		need     []bool
		text     string
	}{
		{[]int{2}, []int{2}, []bool{true, true, true, false}, "input 0; const 2; mul 0 1; "},
		{[]int{3}, []int{1}, []bool{true, false, false, true}, "input 0; neg 0; "},
		{[]int{1}, []int{0}, []bool{false, true, false, false}, "const 2; "},
		{[]int{0, 0}, []int{0, 0}, []bool{true, false, false, false}, "input 0; "},
		{[]int{3, 1, 3}, []int{2, 1, 2}, []bool{true, true, false, true}, "input 0; const 2; neg 0; "},
		{[]int{3, 2}, []int{3, 2}, []bool{true, true, true, true}, "input 0; const 2; mul 0 1; neg 0; "},
		{nil, nil, make([]bool, 4), ""},
		{[]int{}, nil, make([]bool, 4), ""},
		{[]int{-1, 4, math.MinInt, math.MaxInt}, []int{-1, -1, -1, -1}, make([]bool, 4), ""},
		{[]int{4, 3, -1}, []int{-1, 1, -1}, []bool{true, false, false, true}, "input 0; neg 0; "},
	} {
		if got := line.Needs(example(), c.outs); !slices.Equal(got, c.need) {
			t.Errorf("Needs for %v = %v, want %v", c.outs, got, c.need)
		}
		p, at := line.Trim(example(), c.outs)
		text := ""
		for _, x := range p {
			text += line.Show(x) + "; "
		}
		if text != c.text || !slices.Equal(at, c.at) {
			t.Errorf("Trim for %v = %q at %v, want %q at %v", c.outs, text, at, c.text, c.at)
		}
		checkTrim(t, example(), c.outs)
	}
}

// Promise 15.3: the number of an input is not the number of an instruction, and stays.
func TestTrimKeepsInputs(t *testing.T) {
	l := []api.Ins{input(1), input(0), input(65535), constant("-1/3"), input(3), two(7, 4, 2)}
	p, at := line.Trim(l, []int{5, 3})
	want := []api.Ins{input(65535), constant("-1/3"), input(3), two(7, 2, 0)}
	if !sameProgram(p, want) || !slices.Equal(at, []int{3, 1}) {
		t.Errorf("got %v at %v", p, at)
	}
}

// Promises 15.3 and 15.4: where all, some and no instructions are needed, and outs at the edges.
func TestTrimEdges(t *testing.T) {
	for _, l := range [][]api.Ins{
		nil, {}, {input(0)}, {constant("0")}, example(), chain(2), chain(10), chain(301),
		{input(0), two(6, 0, 0), two(6, 1, 1), two(6, 2, 2), input(1), two(4, 4, 4), two(5, 3, 3), one(8, 5), one(9, 0), one(10, 7)},
	} {
		n := len(l)
		for _, outs := range [][]int{
			nil, {}, {0}, {n - 1}, {n}, {-1}, {n + 1}, {math.MaxInt}, {math.MinInt}, {n - 1, n - 1, n - 1}, {0, n - 1, 0}, {n - 1, 0, n, -1},
			{n / 2}, {n / 2, n / 3}, {n / 3, n / 2, n/2 + 1}, {math.MaxInt, n / 2, math.MinInt, 65535, 65536},
		} {
			checkTrim(t, l, outs)
		}
		var all []int
		for i := range l {
			checkTrim(t, l, []int{i})
			all = append(all, n-1-i)
		}
		checkTrim(t, l, all)
	}
}

// Promises 15.3 and 15.4, for programs of each Op in any order.
func TestTrimRandom(t *testing.T) {
	r := rand.New(rand.NewSource(1))
	for n := range 400 {
		l := randomProgram(r, n%40+1)
		var outs []int
		for range r.Intn(5) {
			outs = append(outs, r.Intn(len(l)+4)-2)
		}
		checkTrim(t, l, outs)
	}
	for range 3 {
		l := randomProgram(r, 2000)
		checkTrim(t, l, []int{1999, 1000, 3})
	}
}

// Promise 15.3: the longest programs.
func TestTrimLongest(t *testing.T) {
	l := chain(65536)
	p, at := line.Trim(l, []int{65535, 65536, 0})
	if !sameProgram(p, l) || !slices.Equal(at, []int{65535, -1, 0}) {
		t.Errorf("%d instructions at %v", len(p), at)
	}
	p, at = line.Trim(l, []int{40000})
	if !sameProgram(p, l[:40001]) || !slices.Equal(at, []int{40000}) {
		t.Errorf("%d instructions at %v", len(p), at)
	}
	l[65000] = input(9)
	need := line.Needs(l, []int{65535})
	if len(need) != 65536 || slices.Contains(need[:65000], true) || slices.Contains(need[65000:], false) {
		t.Errorf("%d instructions", len(need))
	}
	p, at = line.Trim(l, []int{65535})
	if len(p) != 536 || !sameIns(p[0], input(9)) || p[535].A != 534 || !slices.Equal(at, []int{535}) {
		t.Errorf("%d instructions at %v", len(p), at)
	}
}

// noPrograms are instructions that are no program, each for another reason.
func noPrograms() [][]api.Ins {
	out := [][]api.Ins{
		{{}}, {{Op: 11}}, {{Op: -1}}, {input(-1)}, {input(65536)}, {two(1, 0, 1)}, {one(3, 0)}, {one(9, -1)}, {input(0), one(8, 1)}, {input(0), two(4, 0, 1)},
		{input(0), two(4, 1, 0)}, {input(0), two(6, 0, math.MaxInt)}, {input(0), two(6, math.MinInt, 0)}, {input(0), two(10, 0, 1)}, {one(3, 1), input(0)},
		{input(0), {Op: 3, Num: num("0")}}, {{Op: 2, A: 1, Num: num("1")}}, chain(65537), make([]api.Ins, 3),
	}
	for _, v := range badNums() {
		out = append(out, []api.Ins{input(0), {Op: 2, Num: v}}, []api.Ins{{Op: 2, Num: v}, input(0), one(3, 1)})
	}
	return out
}

// Promises 15.1 and 15.3: what is no program has no needed instructions and is not trimmed, whichever instructions are asked for.
func TestNoProgram(t *testing.T) {
	for _, l := range noPrograms() {
		if line.Right(l) {
			t.Errorf("%d instructions are a program", len(l))
		}
		for _, outs := range [][]int{nil, {0}, {0, 1, -1}, {len(l) - 1}, {len(l)}, {math.MaxInt, math.MinInt}} {
			if got := line.Needs(l, outs); len(got) != 0 {
				t.Errorf("Needs of %d instructions = %v", len(l), got)
			}
			if p, at := line.Trim(l, outs); len(p) != 0 || len(at) != 0 {
				t.Errorf("Trim of %d instructions = %v, %v", len(l), p, at)
			}
		}
	}
}

// R1 and R9: any instructions are answered.
func TestAnyInstructions(t *testing.T) {
	r := rand.New(rand.NewSource(2))
	numbers := append(append(farOut(), noOps()...), -1, 0, 1, 2, 3, 4, 5, 6, 7, 8, 9, 10)
	pick := func() int { return numbers[r.Intn(len(numbers))] }
	nums := append(badNums(), num("1"), num("-1/2"))
	for range 5000 {
		l := make([]api.Ins, r.Intn(6))
		for i := range l {
			l[i] = api.Ins{Op: r.Intn(12), A: pick(), B: pick(), Num: nums[r.Intn(len(nums))]}
			line.Show(l[i])
		}
		outs := []int{pick(), pick()}
		if line.Right(l) {
			checkTrim(t, l, outs)
		} else if p, at := line.Trim(l, outs); p != nil || at != nil || line.Needs(l, outs) != nil {
			t.Errorf("%v is trimmed", l)
		}
		line.Inputs(l)
		line.Counts(l)
		line.Forms(l)
	}
}

// words are all words of a program, those behind the ends of its lists too, as instructions that share no memory with it.
func words(l []api.Ins) []api.Ins {
	all := slices.Clone(l[:cap(l)])
	for i := range all {
		n := &all[i].Num
		n.Num, n.Den = slices.Clone(n.Num[:cap(n.Num)]), slices.Clone(n.Den[:cap(n.Den)])
	}
	return all
}

func overwrite(l []api.Ins) {
	for i := range l[:cap(l)] {
		x := &l[:cap(l)][i]
		for _, a := range [][]uint64{x.Num.Num, x.Num.Den} {
			for k := range a[:cap(a)] {
				a[:cap(a)][k] ^= top
			}
		}
		x.Op, x.A, x.B = x.Op+1, x.A+1, x.B+1
	}
}

// R4: no function changes its arguments, or the capacity behind them, and results are new memory.
func TestArgumentsAndResultsAreApart(t *testing.T) {
	r := rand.New(rand.NewSource(3))
	for n := range 200 {
		l := withSpare(randomProgram(r, n%30+2), constant("77"))
		outs := withSpare([]int{r.Intn(len(l)), len(l), r.Intn(len(l)), -1, len(l) - 1}, 5)
		before, beforeOuts := words(l), slices.Clone(outs[:cap(outs)])
		check := func(what string) {
			t.Helper()
			if !sameProgram(words(l), before) || !slices.Equal(outs[:cap(outs)], beforeOuts) {
				t.Fatalf("%s changed the arguments", what)
			}
		}
		line.Right(l)
		line.Inputs(l)
		line.Counts(l)
		line.Forms(l)
		for _, x := range l {
			line.Show(x)
		}
		need := line.Needs(l, outs)
		p, at := line.Trim(l, outs)
		check("a call")
		wantNeed, wantAt, want := slices.Clone(need), slices.Clone(at), words(p[:len(p):len(p)])
		again, atAgain := line.Trim(l, outs)
		overwrite(p)
		for i := range at[:cap(at)] {
			at[:cap(at)][i] = -9
		}
		check("overwriting the result")
		overwrite(l)
		clear(outs[:cap(outs)])
		if !sameProgram(words(again[:len(again):len(again)]), want) || !slices.Equal(atAgain, wantAt) || !slices.Equal(need, wantNeed) {
			t.Fatal("a result changed with the arguments, or with another result")
		}
	}
}

// R4: the lists of a result are apart where those of the argument are not.
func TestSharedListsComeApart(t *testing.T) {
	shared := []uint64{5, 1}
	five, unit := shared[:1], shared[1:]
	l := []api.Ins{{Op: 2, Num: api.Rat{Num: five, Den: unit}}, {Op: 2, Num: api.Rat{Num: five, Den: unit}}, {Op: 2, Num: api.Rat{Num: unit, Den: unit}}}
	p, _ := line.Trim(l, []int{0, 1, 2})
	var lists [][]uint64
	for _, x := range p {
		lists = append(lists, x.Num.Num, x.Num.Den)
	}
	for i, a := range lists {
		a[:cap(a)][0] = uint64(100 + i)
		if cap(a) > 1 {
			a[:cap(a)][1] = 7
		}
	}
	for i, a := range lists {
		if len(a) != 1 || a[0] != uint64(100+i) {
			t.Errorf("list %d is %v", i, a)
		}
	}
	if !slices.Equal(shared, []uint64{5, 1}) {
		t.Errorf("the argument is %v", shared)
	}
}
