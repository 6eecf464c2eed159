package power_test

import (
	"math"
	"math/big"
	"math/rand"
	"slices"
	"strings"
	"testing"

	"gradine/api"
	"gradine/digit"
	"gradine/power"
	"gradine/rat"
)

const top = 1<<64 - 1

// withSpare is a copy of a list with capacity behind it that a function could overwrite.
func withSpare(a []uint64) []uint64 {
	b := slices.Clone(a)
	for range 4 {
		b = append(b, 0x5ca1ab1e)
	}
	return b[:len(a)]
}

// list is the normalized list of a number without its sign.
func list(n *big.Int) []uint64 {
	var a []uint64
	for _, w := range n.Bits() {
		a = append(a, uint64(w))
	}
	return a
}

// exact is the valid number of a value, by a way that does not use the program.
func exact(v *big.Rat) api.Rat {
	return api.Rat{Neg: v.Sign() < 0, Num: withSpare(list(v.Num())), Den: withSpare(list(v.Denom()))}
}

// text is the number of a text, by a way that does not use the program.
func text(s string) *big.Rat {
	v, ok := new(big.Rat).SetString(s)
	if !ok {
		panic(s)
	}
	return v
}

// equal compares fields, word by word.
func equal(a, b api.Rat) bool {
	return a.Neg == b.Neg && slices.Equal(a.Num, b.Num) && slices.Equal(a.Den, b.Den)
}

// wantValue also says that a number is valid, as the fields of a value have only one valid form.
func wantValue(t *testing.T, what string, got api.Rat, want *big.Rat) {
	t.Helper()
	if !equal(got, exact(want)) {
		t.Errorf("%s = %v, want %v", what, got, want)
	}
}

// wantError also says that there is no number beside the error (R2).
func wantError(t *testing.T, what string, got api.Rat, e, want api.Errno) {
	t.Helper()
	if e != want || !equal(got, api.Rat{}) {
		t.Errorf("%s: %v, %v, want %v", what, got, e, want)
	}
}

// values have numerators and denominators of one word and of several words.
func values() []*big.Rat {
	out := []*big.Rat{new(big.Rat)}
	for _, s := range []string{
		"1", "2", "3", "10", "1/2", "1/3", "2/3", "3/2", "4/3", "5/2", "7/3", "99/100", "101/100", "1/1000",
		"9223372036854775807", "9223372036854775808", "18446744073709551615", "18446744073709551616", "18446744073709551617",
		"18446744073709551615/2", "1/9223372036854775808", "1/18446744073709551615", "1/18446744073709551616",
		"18446744073709551615/18446744073709551614", "18446744073709551615/18446744073709551616", "18446744073709551616/18446744073709551615",
		"340282366920938463463374607431768211456", "1/340282366920938463463374607431768211456",
		"340282366920938463463374607431768211457/340282366920938463463374607431768211455",
		"6277101735386680763835789423207666416102355444464034512895/18446744073709551616",
	} {
		out = append(out, text(s), text("-"+s))
	}
	r := rand.New(rand.NewSource(1))
	for n := range 12 {
		num, den := new(big.Int).Rand(r, power2(40*n+2)), new(big.Int).Rand(r, power2(500-40*n))
		v := new(big.Rat).SetFrac(num, den.Add(den, big.NewInt(1)))
		out = append(out, v, new(big.Rat).Neg(v))
	}
	return out
}

func power2(n int) *big.Int {
	return new(big.Int).Lsh(big.NewInt(1), uint(n))
}

// raised is a power, by a way that does not use the program; v is not 0 if n is negative.
func raised(v *big.Rat, n int) *big.Rat {
	e := big.NewInt(int64(max(n, -n)))
	out := new(big.Rat).SetFrac(new(big.Int).Exp(v.Num(), e, nil), new(big.Int).Exp(v.Denom(), e, nil))
	if n < 0 {
		out.Inv(out)
	}
	return out
}

// Promise 8.1: all exponents that are not too great or too small, the neighbours of the outermost ones, and the outermost ints.
func TestPow(t *testing.T) {
	if power.Most != 64 {
		t.Error(power.Most)
	}
	for _, v := range values() {
		x := exact(v)
		for n := -64; n <= 64; n++ {
			y, e := power.Pow(x, n)
			if n < 0 && v.Sign() == 0 {
				wantError(t, "a negative power of 0", y, e, api.ErrZero)
				continue
			}
			wantValue(t, "a power of "+v.RatString(), y, raised(v, n))
			if e != api.OK {
				t.Errorf("Pow(%v, %d): %v", v, n, e)
			}
		}
		for _, n := range []int{-65, 65, -66, 66, -128, 128, math.MinInt, math.MinInt + 1, math.MaxInt, math.MaxInt - 1, 1 << 32, -1 << 32} {
			y, e := power.Pow(x, n)
			wantError(t, "Pow of "+v.RatString(), y, e, api.ErrArg)
		}
	}
}

// Promise 8.1, with results that are written out.
func TestPowExamples(t *testing.T) {
	for _, c := range []struct {
		x    string
		n    int
		want string
	}{
		{"2/3", -2, "9/4"}, {"-2/3", -3, "-27/8"}, {"-2/3", 2, "4/9"}, {"-2/3", 3, "-8/27"},
		{"0", 0, "1"}, {"0", 1, "0"}, {"0", 64, "0"}, {"1", 64, "1"}, {"1", -64, "1"}, {"-1", 63, "-1"}, {"-1", 64, "1"}, {"-1", -63, "-1"}, {"-1", -64, "1"},
		{"-7/3", 0, "1"}, {"-7/3", 1, "-7/3"}, {"-7/3", -1, "-3/7"},
		{"2", 63, "9223372036854775808"}, {"2", 64, "18446744073709551616"}, {"-2", -64, "1/18446744073709551616"}, {"-2", -63, "-1/9223372036854775808"},
		{"4294967296", 4, "340282366920938463463374607431768211456"},
	} {
		if y, e := power.Pow(exact(text(c.x)), c.n); e != api.OK || !equal(y, exact(text(c.want))) {
			t.Errorf("Pow(%s, %d) = %v, %v", c.x, c.n, y, e)
		}
	}
}

// Promise 8.1 and R2: an exponent that is too small comes before a 0 that has no inverse.
func TestExponentComesFirst(t *testing.T) {
	for n, want := range map[int]api.Errno{-1: api.ErrZero, -63: api.ErrZero, -64: api.ErrZero, -65: api.ErrArg, math.MinInt: api.ErrArg, 65: api.ErrArg} {
		y, e := power.Pow(rat.Of(0), n)
		wantError(t, "Pow(0, n)", y, e, want)
	}
}

// Promise 8.1.
func TestBits(t *testing.T) {
	for _, v := range values() {
		if n := power.Bits(exact(v)); n != max(v.Num().BitLen(), v.Denom().BitLen()) {
			t.Errorf("Bits(%v) = %d", v, n)
		}
	}
	for s, want := range map[string]int{
		"0": 1, "1": 1, "-1": 1, "2": 2, "1/2": 2, "-3/4": 3, "4/3": 3, "18446744073709551615": 64, "-18446744073709551616": 65,
		"1/18446744073709551615": 64, "3/18446744073709551616": 65, "18446744073709551616/3": 65,
	} {
		if n := power.Bits(exact(text(s))); n != want {
			t.Errorf("Bits(%s) = %d", s, n)
		}
	}
}

// Promise 8.1.
func TestAbs(t *testing.T) {
	for _, v := range values() {
		wantValue(t, "Abs", power.Abs(exact(v)), new(big.Rat).Abs(v))
	}
}

// Promise 8.1: with a divisor that is positive, big.Int's Div rounds down.
func TestFloor(t *testing.T) {
	for _, v := range values() {
		wantValue(t, "Floor of "+v.RatString(), power.Floor(exact(v)), new(big.Rat).SetInt(new(big.Int).Div(v.Num(), v.Denom())))
	}
	for num := int64(-30); num <= 30; num++ {
		for den := int64(1); den <= 8; den++ {
			floor := new(big.Int).Div(big.NewInt(num), big.NewInt(den))
			wantValue(t, "Floor", power.Floor(exact(big.NewRat(num, den))), new(big.Rat).SetInt(floor))
		}
	}
	for s, want := range map[string]string{
		"0": "0", "1": "1", "-1": "-1", "1/2": "0", "-1/2": "-1", "3/2": "1", "-3/2": "-2", "-2": "-2", "99/100": "0", "-99/100": "-1",
		"1/18446744073709551616": "0", "-1/18446744073709551616": "-1",
		"-18446744073709551616":                       "-18446744073709551616",
		"-36893488147419103231/2":                     "-18446744073709551616",
		"-36893488147419103233/2":                     "-18446744073709551617",
		"18446744073709551617/18446744073709551616":   "1",
		"-18446744073709551617/18446744073709551616":  "-2",
		"-340282366920938463463374607431768211455/16": "-21267647932558653966460912964485513216",
	} {
		wantValue(t, "Floor of "+s, power.Floor(exact(text(s))), text(want))
	}
}

// Promise 8.1.
func TestShow(t *testing.T) {
	for _, v := range values() {
		if s := power.Show(exact(v)); s != v.RatString() {
			t.Errorf("Show(%v) = %q", v, s)
		}
	}
	for _, s := range []string{
		"0", "1", "-1", "-1/2", "1/2", "10", "-10/7", "7/10", "18446744073709551616", "-18446744073709551616/3", "1/18446744073709551616",
		"18446744073709551617/18446744073709551616",
	} {
		if got := power.Show(exact(text(s))); got != s {
			t.Errorf("Show of %s is %q", s, got)
		}
	}
}

// Promise 8.2: with and without a sign and a denominator, in lowest terms or not.
func TestRead(t *testing.T) {
	for s, want := range map[string]string{
		"0": "0", "-0": "0", "0/1": "0", "0/5": "0", "-0/5": "0", "-0/18446744073709551616": "0",
		"1": "1", "-1": "-1", "1/1": "1", "-1/1": "-1", "5/5": "1", "7": "7", "-10": "-10", "10/1": "10",
		"1/2": "1/2", "2/4": "1/2", "-2/4": "-1/2", "6/4": "3/2", "4/2": "2", "-6/3": "-2", "100/10": "10", "3/7": "3/7",
		"18446744073709551615": "18446744073709551615", "18446744073709551616": "18446744073709551616",
		"-18446744073709551616/2":                        "-9223372036854775808",
		"2/18446744073709551616":                         "1/9223372036854775808",
		"18446744073709551616/55340232221128654848":      "1/3",
		"-9223372036854775808":                           "-9223372036854775808",
		"-340282366920938463463374607431768211456/18446": "-170141183460469231731687303715884105728/9223",
	} {
		x, e := power.Read(s)
		wantValue(t, "Read of "+s, x, text(want))
		if e != api.OK {
			t.Errorf("Read(%q): %v", s, e)
		}
	}
}

// Promise 8.2 and R7: the form of both parts.
func TestReadOfOtherTexts(t *testing.T) {
	for _, s := range []string{
		"", "-", "--", "--1", "---1", "-+1", "+1", "+", "+-1", "1-", "1-1", "-1-", "- 1", " -1",
		"/", "-/", "//", "-//", "/1", "/2", "-/2", "//2", "/-", "/-1", "3/", "-3/", "0/", "-0/", "1//", "1//2", "1/2/", "1/2/3", "1/0/1", "1/2/0", "-1/2/3", "1/2//",
		"1/-2", "1/-", "1/-0", "1/+2", "1/--2", "-1/-2", "1-/2", "1/2-",
		"00", "-00", "01", "-01", "007", "01/2", "-01/2", "1/02", "1/00", "-1/01", "00/1", "0/00",
		" ", " 1", "1 ", "1 /2", "1/ 2", "1/2 ", " 1/2", "1 / 2", "1/2\n", "\n1/2", "1\n", "1\n/2", "1\t/2", "-\n1",
		"a", "1/a", "a/1", "-a", "1a/2", "1/2a", "0x1", "1e3", "1/1e3", "1.5", ".5", "1_0", "1,0", "1:2", "1\\2", "NaN", "Inf", "-Inf",
		"\x00", "1\x00/2", "1/2\x00", "\xff", "1/\xff", "\u0661", "1/\u0662", "\u2212" + "1", "1\u2044" + "2", "\u00bd", "1\u2215" + "2",
	} {
		x, e := power.Read(s)
		wantError(t, s, x, e, api.ErrForm)
	}
}

// Promise 8.2: each byte in the place of each character of a text.
func TestReadOfAllBytes(t *testing.T) {
	const good = "-35/72"
	for i := range len(good) {
		for c := range 256 {
			s := []byte(good)
			s[i] = byte(c)
			number := c >= '0' && c <= '9'
			// A digit may stand for the sign and for the /, and a / only for itself; a part must not begin with 0.
			ok := number && c != '0' || number && i != 0 && i != 1 && i != 4 || c == '-' && i == 0 || c == '/' && i == 3
			x, e := power.Read(string(s))
			if !ok {
				wantError(t, string(s), x, e, api.ErrForm)
				continue
			}
			wantValue(t, string(s), x, text(string(s)))
			if e != api.OK {
				t.Errorf("Read(%q): %v", s, e)
			}
		}
	}
}

// Promise 8.2: a denominator 0, whatever the numerator is.
func TestReadOfDenominatorZero(t *testing.T) {
	for _, s := range []string{"0/0", "-0/0", "1/0", "-1/0", "7/0", "18446744073709551616/0", strings.Repeat("1", digit.Most) + "/0"} {
		x, e := power.Read(s)
		wantError(t, s, x, e, api.ErrZero)
	}
}

// Promise 8.2: each part may have as many bytes as digit.Read takes, beside the - and the /.
func TestReadOfLongTexts(t *testing.T) {
	long := strings.Repeat("9", digit.Most)
	other := "1" + strings.Repeat("0", digit.Most-1)
	for _, s := range []string{long, "-" + long, long + "/1", "1/" + long, "-" + long + "/" + other, other + "/" + long, "-" + long + "/" + long} {
		x, e := power.Read(s)
		wantValue(t, s, x, text(s))
		if e != api.OK {
			t.Errorf("Read(%q): %v", s, e)
		}
	}
	for _, s := range []string{
		long + "9", "-" + long + "9", long + "9/1", "1/" + long + "9", "-1/" + long + "9", long + "/" + long + "9", long + "9/" + long + "9", "1/" + long + "/",
		strings.Repeat("7", 1<<20), "1/" + strings.Repeat("7", 1<<20),
	} {
		x, e := power.Read(s)
		wantError(t, s, x, e, api.ErrLong)
	}
}

// Promise 8.2 and R2: the numerator's error, then the denominator's, then ErrZero; in each part ErrLong before ErrForm, as in digit.Read.
func TestFirstErrorOfSeveral(t *testing.T) {
	long := strings.Repeat("1", digit.Most+1)
	less := long[:digit.Most-1]
	for _, c := range []struct {
		text string
		want api.Errno
	}{
		{"a/" + long, api.ErrForm},
		{"/" + long, api.ErrForm},
		{"-/" + long, api.ErrForm},
		{"--1/" + long, api.ErrForm},
		{"01/" + long, api.ErrForm},
		{long + "/a", api.ErrLong},
		{long + "/", api.ErrLong},
		{"-" + long + "/0", api.ErrLong},
		{"0" + long + "/0", api.ErrLong},
		{"a" + long + "/0", api.ErrLong},
		{"a/0", api.ErrForm},
		{"/0", api.ErrForm},
		{"-/0", api.ErrForm},
		{"00/0", api.ErrForm},
		{"1/00", api.ErrForm},
		{"1/0/0", api.ErrForm},
		{"1/-0", api.ErrForm},
		{"1/" + strings.Repeat("0", digit.Most), api.ErrForm},
		{"1/" + strings.Repeat("0", digit.Most+1), api.ErrLong},
		{"1/a" + long, api.ErrLong},
		{"1/" + less + "/", api.ErrForm},
		{"1/" + less + "/1", api.ErrLong},
		{"1/-" + less, api.ErrForm},
		{"1/-" + less + "1", api.ErrLong},
		{"-" + less + "-", api.ErrForm},
		{"--" + less, api.ErrForm},
		{"--" + less + "1", api.ErrLong},
		{strings.Repeat("-", digit.Most+1), api.ErrForm},
		{strings.Repeat("-", digit.Most+2), api.ErrLong},
		{strings.Repeat("/", 1000), api.ErrForm},
		{"1" + strings.Repeat("/", digit.Most+1), api.ErrForm},
		{"1" + strings.Repeat("/", digit.Most+2), api.ErrLong},
	} {
		x, e := power.Read(c.text)
		wantError(t, c.text, x, e, c.want)
	}
}

// Promise 8.3.
func TestProductsOfPowers(t *testing.T) {
	for _, v := range values()[:30] {
		x := exact(v)
		for n := -32; n <= 64; n += 4 {
			for m := -32; m <= 64-max(n, 0); m += 3 {
				a, e := power.Pow(x, n)
				b, f := power.Pow(x, m)
				c, g := power.Pow(x, n+m)
				if v.Sign() == 0 && min(n, m) < 0 {
					continue
				}
				if e != api.OK || f != api.OK || g != api.OK || !rat.Same(rat.Mul(a, b), c) {
					t.Errorf("powers %d and %d of %v", n, m, v)
				}
			}
		}
	}
}

// Promise 8.3: a number is read as it was shown, unless its text is too long.
func TestReadUndoesShow(t *testing.T) {
	for _, v := range values() {
		x := exact(v)
		if y, e := power.Read(power.Show(x)); e != api.OK || !rat.Same(x, y) {
			t.Errorf("Read(Show(%v)) = %v, %v", v, y, e)
		}
	}
	// The text of 10^n has n + 1 digits.
	longest := new(big.Int).Exp(big.NewInt(10), big.NewInt(digit.Most-1), nil)
	for _, v := range []*big.Rat{new(big.Rat).SetInt(longest), new(big.Rat).SetFrac(big.NewInt(-1), longest)} {
		if y, e := power.Read(power.Show(exact(v))); e != api.OK || !equal(y, exact(v)) {
			t.Errorf("Read(Show(%v)) = %v, %v", v, y, e)
		}
	}
	longer := new(big.Int).Mul(longest, big.NewInt(10))
	for _, v := range []*big.Rat{new(big.Rat).SetInt(longer), new(big.Rat).SetFrac(big.NewInt(-1), longer)} {
		y, e := power.Read(power.Show(exact(v)))
		wantError(t, v.RatString(), y, e, api.ErrLong)
	}
}

// Promise 8.4.
func TestFloorIsNext(t *testing.T) {
	for _, v := range values() {
		x := exact(v)
		floor := power.Floor(x)
		if rat.Cmp(floor, x) > 0 || rat.Cmp(rat.Add(floor, rat.Of(1)), x) <= 0 || !rat.Right(floor) {
			t.Errorf("Floor(%v) = %v", v, floor)
		}
	}
}

// call is a function of the package as one of a number that returns one.
type call struct {
	name string
	do   func(x api.Rat) api.Rat
}

func calls() []call {
	out := []call{
		{"Bits", func(x api.Rat) api.Rat { power.Bits(x); return api.Rat{} }},
		{"Abs", power.Abs},
		{"Floor", power.Floor},
		{"Show", func(x api.Rat) api.Rat { power.Show(x); return api.Rat{} }},
	}
	for _, n := range []int{math.MinInt, -65, -64, -2, -1, 0, 1, 2, 64, 65, math.MaxInt} {
		out = append(out, call{"Pow", func(x api.Rat) api.Rat { y, _ := power.Pow(x, n); return y }})
	}
	return out
}

// R1 and R9: numbers that are not valid may have any result, but have one.
func TestNumbersThatAreNotValid(t *testing.T) {
	lists := [][]uint64{nil, {}, {0}, {0, 0, 0}, {1}, {1, 0}, {2}, {4}, {4, 0, 0}, {6}, {6, 0}, {top}, {0, 1}, {6, 6}, {0, 12, 0}, {top, top}, {1, 0, 1, 0}}
	for _, c := range calls() {
		for _, num := range lists {
			for _, den := range lists {
				c.do(api.Rat{Num: num, Den: den})
				c.do(api.Rat{Neg: true, Num: num, Den: den})
			}
		}
	}
}

// whole are all words of a number, those behind the end of its lists too.
func whole(x api.Rat) []uint64 {
	return slices.Concat(x.Num[:cap(x.Num)], x.Den[:cap(x.Den)])
}

func overwrite(a []uint64) {
	for i := range a[:cap(a)] {
		a[:cap(a)][i] ^= top
	}
}

// R4: arguments keep all their words; results are new memory in which both lists are apart.
func TestArgumentsAndResultsAreApart(t *testing.T) {
	for _, c := range calls() {
		for _, v := range values() {
			x := exact(v)
			words := whole(x)
			got := c.do(x)
			want := api.Rat{Neg: got.Neg, Num: slices.Clone(got.Num), Den: slices.Clone(got.Den)}
			if !slices.Equal(whole(x), words) {
				t.Fatalf("%s changed its argument %v", c.name, v)
			}
			overwrite(got.Num)
			if !slices.Equal(got.Den, want.Den) {
				t.Fatalf("%s(%v): both lists of the result share memory", c.name, v)
			}
			overwrite(got.Den)
			if !slices.Equal(whole(x), words) {
				t.Fatalf("%s(%v): the result and the argument share memory", c.name, v)
			}
			again := c.do(x)
			overwrite(x.Num)
			overwrite(x.Den)
			if !equal(again, want) {
				t.Fatalf("%s(%v): got %v, want %v", c.name, v, again, want)
			}
		}
	}
}

// R4: what Read and Show return is new memory, whatever was read or shown before.
func TestTextsAndNumbersAreApart(t *testing.T) {
	for _, v := range values() {
		x := exact(v)
		s := power.Show(x)
		overwrite(x.Num)
		overwrite(x.Den)
		if s != v.RatString() {
			t.Fatalf("Show(%v) = %q", v, s)
		}
		y, _ := power.Read(s)
		overwrite(y.Num)
		wantDen := list(v.Denom())
		if !slices.Equal(y.Den, wantDen) {
			t.Fatalf("Read(%q): both lists of the result share memory", s)
		}
		overwrite(y.Den)
		if z, e := power.Read(s); e != api.OK || !equal(z, exact(v)) {
			t.Fatalf("Read(%q) = %v, %v", s, z, e)
		}
	}
}
