package digit_test

import (
	"cmp"
	"math/big"
	"math/rand"
	"slices"
	"strings"
	"testing"

	"gradine/api"
	"gradine/digit"
	"gradine/nat"
	"gradine/prod"
)

const top = 1<<64 - 1

// withSpare is a copy of a list with capacity behind it that a function could overwrite.
func withSpare(a []uint64) []uint64 {
	b := slices.Clone(a)
	for range 4 {
		b = append(b, 0x5ca1ab1e)
	}
	return b[:len(a)]
}

// numbers are at the edges of words and of powers of 10; none of their texts is longer than Most.
func numbers() [][]uint64 {
	out := [][]uint64{{}, {top - 1}, {top}, {0, 1}, {1, 1}, {2, 1}, {top, 1}, {top, top}, {0, 0, 1}, {top, 0, 1}, {0, 0, 0, 0, 1 << 40}}
	for n := range uint64(120) {
		out = append(out, nat.Of(n))
	}
	power := nat.Of(1)
	for range digit.Most {
		less, _ := nat.Sub(power, nat.Of(1))
		out = append(out, less, power, nat.Add(power, nat.Of(1)))
		power = prod.Word(power, 10, 0)
	}
	r := rand.New(rand.NewSource(1))
	for n := range 20 {
		out = append(out, random(r, n+1))
	}
	less, _ := nat.Sub(power, nat.Of(1))
	return append(out, less)
}

// lists are numbers with capacity behind their end, each of them also with zero words at its end, and nil.
func lists() [][]uint64 {
	out := [][]uint64{nil}
	for _, a := range numbers() {
		out = append(out, withSpare(a), withSpare(append(slices.Clone(a), 0)), withSpare(append(slices.Clone(a), 0, 0, 0)))
	}
	return out
}

func random(r *rand.Rand, n int) []uint64 {
	a := make([]uint64, n)
	for i := range a {
		a[i] = r.Uint64() >> r.Intn(64)
	}
	return a
}

// number is what a list says, by a way that does not use the program.
func number(a []uint64) *big.Int {
	words := make([]big.Word, len(a))
	for i, w := range a {
		words[i] = big.Word(w)
	}
	return new(big.Int).SetBits(words)
}

// list is the normalized list of the number of a text, by a way that does not use the program.
func list(t *testing.T, s string) []uint64 {
	t.Helper()
	n, ok := new(big.Int).SetString(s, 10)
	if !ok {
		t.Fatal(s)
	}
	var a []uint64
	for _, w := range n.Bits() {
		a = append(a, uint64(w))
	}
	return a
}

// Promise 6.1.
func TestShow(t *testing.T) {
	for _, a := range lists() {
		if s := digit.Show(a); s != number(a).String() {
			t.Errorf("Show(%v) = %s", a, s)
		}
	}
	for _, c := range []struct {
		a    []uint64
		text string
	}{
		{nil, "0"},
		{[]uint64{}, "0"},
		{[]uint64{0, 0}, "0"},
		{[]uint64{7, 0}, "7"},
		{[]uint64{10}, "10"},
		{[]uint64{9_999_999_999_999_999_999}, "9999999999999999999"},
		{[]uint64{10_000_000_000_000_000_000}, "10000000000000000000"},
		{[]uint64{top - 1}, "18446744073709551614"},
		{[]uint64{top}, "18446744073709551615"},
		{[]uint64{0, 1}, "18446744073709551616"},
		{[]uint64{1, 1, 0}, "18446744073709551617"},
		{[]uint64{0, 0, 1}, "340282366920938463463374607431768211456"},
	} {
		if s := digit.Show(c.a); s != c.text {
			t.Errorf("Show(%v) = %s", c.a, s)
		}
	}
}

// Promise 6.1: Show knows no greatest number.
func TestShowOfLongNumbers(t *testing.T) {
	r := rand.New(rand.NewSource(2))
	for _, n := range []int{21, 22, 40, 100, 500} {
		for _, a := range [][]uint64{random(r, n), slices.Repeat([]uint64{top}, n), append(make([]uint64, n), 1)} {
			if s := digit.Show(a); s != number(a).String() {
				t.Errorf("Show(%v) = %s", a, s)
			}
		}
	}
	power := prod.Pow(prod.Pow([]uint64{10}, 50), 20)
	if s := digit.Show(power); s != "1"+strings.Repeat("0", 1000) {
		t.Error(s)
	}
}

// texts are texts of numbers: short ones, the greatest word and its neighbours, each digit in each length, and some of random digits.
func texts() []string {
	out := []string{"10", "70", "18446744073709551614", "18446744073709551615", "18446744073709551616", "18446744073709551617"}
	for d := '0'; d <= '9'; d++ {
		out = append(out, string(d))
	}
	for n := range digit.Most {
		for d := '1'; d <= '9'; d++ {
			out = append(out, string(d)+strings.Repeat("0", n), strings.Repeat(string(d), n+1))
		}
	}
	r := rand.New(rand.NewSource(3))
	for n := range digit.Most {
		text := []byte{'1' + byte(r.Intn(9))}
		for range n {
			text = append(text, '0'+byte(r.Intn(10)))
		}
		out = append(out, string(text))
	}
	return out
}

// Promise 6.1.
func TestRead(t *testing.T) {
	if digit.Most != 400 {
		t.Error(digit.Most)
	}
	for _, s := range texts() {
		if a, e := digit.Read(s); e != api.OK || !slices.Equal(a, list(t, s)) {
			t.Errorf("Read(%q) = %v, %v", s, a, e)
		}
	}
	if a, e := digit.Read("0"); e != api.OK || len(a) != 0 {
		t.Error(a, e)
	}
	if a, e := digit.Read("18446744073709551616"); e != api.OK || !slices.Equal(a, []uint64{0, 1}) {
		t.Error(a, e)
	}
}

func wantError(t *testing.T, s string, want api.Errno) {
	t.Helper()
	if a, e := digit.Read(s); e != want || len(a) != 0 {
		t.Errorf("Read(%q) = %v, %v", s, a, e)
	}
}

// Promise 6.1 and R7: only digits, at least one, and no leading zeros.
func TestReadOfOtherTexts(t *testing.T) {
	for _, s := range []string{
		"", "00", "007", "01", "0000000000000000000000", "0" + strings.Repeat("1", 399), strings.Repeat("0", 400),
		"-", "-0", "-1", "+1", "+0", "1-", "1+1", " ", " 1", "1 ", "1 2", "\t1", "1\n", "\n", "1\r\n",
		"a", "1a", "a1", "0x10", "1e3", "1_000", "1,000", "1.0", "1.", ".5", "1/2", "NaN", "Inf",
		"\x00", "1\x00", "\xff", "1\x80", "\u0661", "1\u0662", "\uff11", "\u00b2", "1\u00bd",
		strings.Repeat("1", 399) + "a", "a" + strings.Repeat("1", 399), strings.Repeat(" ", 400), "-" + strings.Repeat("1", 399),
	} {
		wantError(t, s, api.ErrForm)
	}
}

// Promise 6.1: each byte that is not a digit, at each place of a text.
func TestReadOfOtherBytes(t *testing.T) {
	for c := range 256 {
		if c >= '0' && c <= '9' {
			continue
		}
		wantError(t, string([]byte{byte(c)}), api.ErrForm)
		for i := range 25 {
			text := []byte(strings.Repeat("3", 25))
			text[i] = byte(c)
			wantError(t, string(text), api.ErrForm)
		}
	}
}

// Promise 6.1: exactly Most bytes are not too long.
func TestReadOfLongTexts(t *testing.T) {
	for _, d := range []string{"1", "9"} {
		s := strings.Repeat(d, 400)
		if a, e := digit.Read(s); e != api.OK || !slices.Equal(a, list(t, s)) {
			t.Errorf("Read(%q) = %v, %v", s, a, e)
		}
		wantError(t, s+d, api.ErrLong)
		wantError(t, s+s, api.ErrLong)
	}
	wantError(t, strings.Repeat("7", 1<<20), api.ErrLong)
	// Bytes count, not characters: 200 of these have 400 bytes.
	wantError(t, strings.Repeat("\u0661", 200), api.ErrForm)
	wantError(t, strings.Repeat("\u0661", 201), api.ErrLong)
}

// Promise 6.1 and R2: a text that is too long and no number's is too long.
func TestTooLongComesFirst(t *testing.T) {
	for _, s := range []string{
		strings.Repeat("0", 401), "0" + strings.Repeat("1", 400), strings.Repeat("a", 401), strings.Repeat(" ", 401),
		"-" + strings.Repeat("1", 400), strings.Repeat("1", 400) + "\n", "a" + strings.Repeat("1", 1000), strings.Repeat("\x00", 401),
	} {
		wantError(t, s, api.ErrLong)
	}
}

// Promise 6.2: a number is read as it was shown, unless its text is too long.
func TestReadUndoesShow(t *testing.T) {
	for _, a := range lists() {
		if b, e := digit.Read(digit.Show(a)); e != api.OK || !slices.Equal(b, nat.Trim(a)) {
			t.Errorf("Read(Show(%v)) = %v, %v", a, b, e)
		}
	}
	all := numbers()
	greatest := all[len(all)-1]
	wantError(t, digit.Show(nat.Add(greatest, nat.Of(1))), api.ErrLong)
}

// Promise 6.2.
func TestShowUndoesRead(t *testing.T) {
	for _, s := range texts() {
		a, e := digit.Read(s)
		if got := digit.Show(a); e != api.OK || got != s {
			t.Errorf("Show(Read(%q)) = %q, %v", s, got, e)
		}
	}
}

// Promise 6.3.
func TestOrderOfTexts(t *testing.T) {
	all := numbers()
	shown := make([]string, len(all))
	for i, a := range all {
		shown[i] = digit.Show(a)
	}
	for i, a := range all {
		for j, b := range all {
			order := cmp.Or(cmp.Compare(len(shown[i]), len(shown[j])), cmp.Compare(shown[i], shown[j]))
			if order != nat.Cmp(a, b) {
				t.Errorf("%s and %s are in another order than their numbers", shown[i], shown[j])
			}
		}
	}
}

// R4: Show keeps all words of its argument, those behind its end too.
func TestShowKeepsItsArgument(t *testing.T) {
	for _, a := range lists() {
		whole := slices.Clone(a[:cap(a)])
		s := digit.Show(a)
		if !slices.Equal(a[:cap(a)], whole) {
			t.Fatalf("Show changed its argument %v", whole)
		}
		want := strings.Clone(s)
		overwrite(a[:cap(a)])
		if s != want {
			t.Fatalf("Show(%v) was %s, and then %s", whole, want, s)
		}
	}
}

// R4 and promise 2.1: what Read returns is normalized and new memory, whichever text was read before.
func TestReadReturnsNewMemory(t *testing.T) {
	for _, s := range texts() {
		a, _ := digit.Read(s)
		want := slices.Clone(a)
		overwrite(a[:cap(a)])
		if b, e := digit.Read(s); e != api.OK || !nat.Right(b) || !slices.Equal(b, want) {
			t.Fatalf("Read(%q) = %v, %v", s, b, e)
		}
	}
}

func overwrite(a []uint64) {
	for i := range a {
		a[i] = ^a[i]
	}
}
