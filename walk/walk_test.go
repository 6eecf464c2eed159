package walk_test

import (
	"math"
	"slices"
	"testing"

	"gradine/shape"
	"gradine/walk"
)

// withSpare is a copy of a list with capacity behind it that a function could overwrite.
func withSpare(a []int) []int {
	b := slices.Clone(a)
	for range 4 {
		b = append(b, 0x5ca1ab1e)
	}
	return b[:len(a)]
}

// farOut are numbers far from those of any element or place.
func farOut() []int {
	return []int{math.MinInt, math.MinInt + 1, -1 << 62, -1 << 32, -65536, -65, -64, 65, 4096, 65536, 1 << 31, 1 << 32, 1<<32 + 1, 1 << 62, math.MaxInt - 1, math.MaxInt}
}

// validDims are all valid dims of n axes.
func validDims(n int) [][]int {
	out := [][]int{{}}
	for range n {
		var longer [][]int
		for _, d := range out {
			for size := 1; size <= 64/count(d); size++ {
				longer = append(longer, append(slices.Clone(d), size))
			}
		}
		out = longer
	}
	return out
}

// count is the product of valid dims.
func count(d []int) int {
	n := 1
	for _, size := range d {
		n *= size
	}
	return n
}

// someDims are all valid dims of few axes, and of more axes those with few kinds of sizes.
func someDims() [][]int {
	out := [][]int{nil}
	for n := range 4 {
		out = append(out, validDims(n)...)
	}
	for n := 4; n < 7; n++ {
		for _, d := range validDims(n) {
			if d[0] < 4 && d[n-1] < 4 {
				out = append(out, d)
			}
		}
	}
	return out
}

// badDims are dims that are not valid.
func badDims() [][]int {
	return [][]int{
		{0}, {-1}, {65}, {math.MinInt}, {math.MaxInt}, {8, 9}, {3, 0}, {0, 65}, {65, -1}, {2, 3, 11}, {1, 1, 1, 65}, {1 << 32, 1 << 32}, {1 << 62, 4},
		{math.MaxInt, math.MaxInt}, {2, 2, 2, 2, 2, 3}, {1, 1, 1, 1, 1, 1, 1}, {2, 1, 1, 1, 1, 1, 1}, make([]int, 7), make([]int, 100),
	}
}

// places are all places in order: under each number of the first axis, those of the other axes.
func places(d []int) [][]int {
	if len(d) == 0 {
		return [][]int{{}}
	}
	var out [][]int
	for i := range d[0] {
		for _, rest := range places(d[1:]) {
			out = append(out, append([]int{i}, rest...))
		}
	}
	return out
}

// noPlaces are lists that are no place of dims: too short, too long, or with a number that is none of its axis.
func noPlaces(d []int) [][]int {
	out := [][]int{make([]int, len(d)+1), make([]int, len(d)+7), slices.Repeat([]int{-1}, len(d)+1)}
	for _, at := range [][]int{make([]int, len(d)), last(d)} {
		out = append(out, append(slices.Clone(at), 0), append([]int{0}, at...), append(slices.Clone(at), -1))
		for axis := range d {
			out = append(out, at[:axis], at[axis+1:])
			for _, bad := range append(farOut(), -2, -1, d[axis], d[axis]+1) {
				wrong := slices.Clone(at)
				wrong[axis] = bad
				out = append(out, wrong)
			}
		}
	}
	return out
}

// last is the last place.
func last(d []int) []int {
	at := slices.Clone(d)
	for i := range at {
		at[i]--
	}
	return at
}

func wantPlace(t *testing.T, what string, got []int, ok bool, want []int, wantOk bool) {
	t.Helper()
	if !slices.Equal(got, want) || ok != wantOk {
		t.Errorf("%s is %v, %v, want %v, %v", what, got, ok, want, wantOk)
	}
}

// Promises 20.1 and 20.2: each element of each dims; At and Place undo each other, and Next goes on to the next one.
func TestElements(t *testing.T) {
	for _, d := range someDims() {
		all := places(d)
		for n, want := range all {
			at, ok := walk.At(d, n)
			if !slices.Equal(at, want) || !ok {
				t.Errorf("At(%v, %d) = %v, %v, want %v", d, n, at, ok, want)
			}
			if got, ok := walk.Place(d, want); got != n || !ok {
				t.Errorf("Place(%v, %v) = %d, %v, want %d", d, want, got, ok, n)
			}
			if got, ok := walk.Place(d, at); got != n || !ok {
				t.Errorf("Place(%v, At(%d)) = %d, %v", d, n, got, ok)
			}
			next, ok := walk.Next(d, want)
			if n+1 < len(all) {
				wantPlace(t, "Next", next, ok, all[n+1], true)
			} else {
				wantPlace(t, "Next of the last place", next, ok, nil, false)
			}
		}
	}
}

// Promise 20.1: elements that do not exist.
func TestNoElements(t *testing.T) {
	for _, d := range someDims() {
		n := count(d)
		for _, no := range append(farOut(), -2, -1, n, n+1, n+64) {
			if at, ok := walk.At(d, no); len(at) != 0 || ok {
				t.Errorf("At(%v, %d) = %v, %v", d, no, at, ok)
			}
		}
	}
}

// Promise 20.1: what is not a place.
func TestNoPlaces(t *testing.T) {
	for k, d := range someDims() {
		if len(d) > 3 && k%50 != 0 {
			continue
		}
		for _, at := range noPlaces(d) {
			if n, ok := walk.Place(d, at); n != 0 || ok {
				t.Errorf("Place(%v, %v) = %d, %v", d, at, n, ok)
			}
			if next, ok := walk.Next(d, at); len(next) != 0 || ok {
				t.Errorf("Next(%v, %v) = %v, %v", d, at, next, ok)
			}
		}
	}
}

// Promise 20.1: dims that are not valid have no elements and no places.
func TestBadDims(t *testing.T) {
	for _, d := range badDims() {
		for _, n := range append(farOut(), -1, 0, 1, 63, 64) {
			if at, ok := walk.At(d, n); len(at) != 0 || ok {
				t.Errorf("At(%v, %d) = %v, %v", d, n, at, ok)
			}
		}
		for _, at := range [][]int{nil, make([]int, len(d)), last(d), d, make([]int, len(d)+1), make([]int, len(d)-1)} {
			if n, ok := walk.Place(d, at); n != 0 || ok {
				t.Errorf("Place(%v, %v) = %d, %v", d, at, n, ok)
			}
			if next, ok := walk.Next(d, at); len(next) != 0 || ok {
				t.Errorf("Next(%v, %v) = %v, %v", d, at, next, ok)
			}
		}
		if l := walk.All(d); len(l) != 0 {
			t.Errorf("All(%v) = %v", d, l)
		}
	}
}

// Promises 20.1 and 20.2: all places are those of the elements in order, as many as there are elements, in ascending order, and each one's Next is the next one.
func TestAll(t *testing.T) {
	for _, d := range someDims() {
		all := walk.All(d)
		if !slices.EqualFunc(all, places(d), slices.Equal[[]int]) {
			t.Errorf("All(%v) = %v", d, all)
		}
		if len(all) != shape.Count(d) {
			t.Errorf("All(%v) are %d", d, len(all))
		}
		for n, at := range all {
			byNumber, ok := walk.At(d, n)
			wantPlace(t, "At", byNumber, ok, at, true)
			next, ok := walk.Next(d, at)
			if n+1 == len(all) {
				wantPlace(t, "Next of the last place", next, ok, nil, false)
				continue
			}
			wantPlace(t, "Next", next, ok, all[n+1], true)
			if !walk.Ahead(at, all[n+1]) || walk.Ahead(all[n+1], at) {
				t.Errorf("in All(%v) %v is not ahead of %v", d, at, all[n+1])
			}
		}
	}
}

// Promise 20.1: results that are written out.
func TestWrittenOut(t *testing.T) {
	for _, c := range []struct {
		d    []int
		n    int
		at   []int
		next []int
	}{
		{[]int{2, 3}, 0, []int{0, 0}, []int{0, 1}},
		{[]int{2, 3}, 2, []int{0, 2}, []int{1, 0}},
		{[]int{2, 3}, 4, []int{1, 1}, []int{1, 2}},
		{[]int{2, 3}, 5, []int{1, 2}, nil},
		{[]int{2, 3, 4}, 11, []int{0, 2, 3}, []int{1, 0, 0}},
		{[]int{2, 3, 4}, 17, []int{1, 1, 1}, []int{1, 1, 2}},
		{[]int{2, 3, 4}, 23, []int{1, 2, 3}, nil},
		{[]int{1, 3, 2}, 3, []int{0, 1, 1}, []int{0, 2, 0}},
		{[]int{3, 1, 2}, 3, []int{1, 0, 1}, []int{2, 0, 0}},
		{[]int{3, 2, 1}, 3, []int{1, 1, 0}, []int{2, 0, 0}},
		{[]int{1, 1, 1, 1, 1, 1}, 0, []int{0, 0, 0, 0, 0, 0}, nil},
		{[]int{2, 2, 2, 2, 2, 2}, 31, []int{0, 1, 1, 1, 1, 1}, []int{1, 0, 0, 0, 0, 0}},
		{[]int{2, 2, 2, 2, 2, 2}, 63, []int{1, 1, 1, 1, 1, 1}, nil},
		{[]int{64}, 63, []int{63}, nil},
		{[]int{64}, 62, []int{62}, []int{63}},
		{[]int{1}, 0, []int{0}, nil},
		{nil, 0, nil, nil},
		{[]int{}, 0, nil, nil},
	} {
		at, ok := walk.At(c.d, c.n)
		wantPlace(t, "At", at, ok, c.at, true)
		if n, ok := walk.Place(c.d, c.at); n != c.n || !ok {
			t.Errorf("Place(%v, %v) = %d, %v, want %d", c.d, c.at, n, ok, c.n)
		}
		next, ok := walk.Next(c.d, c.at)
		wantPlace(t, "Next", next, ok, c.next, c.next != nil)
	}
}

// Promise 20.1: dims without axes have one place, which is empty.
func TestWithoutAxes(t *testing.T) {
	for _, d := range [][]int{nil, {}} {
		if l := walk.All(d); len(l) != 1 || len(l[0]) != 0 {
			t.Errorf("All = %v", l)
		}
		for _, at := range [][]int{nil, {}} {
			if n, ok := walk.Place(d, at); n != 0 || !ok {
				t.Errorf("Place = %d, %v", n, ok)
			}
			if next, ok := walk.Next(d, at); len(next) != 0 || ok {
				t.Errorf("Next = %v, %v", next, ok)
			}
		}
		for _, at := range [][]int{{0}, {-1}, {0, 0}} {
			if n, ok := walk.Place(d, at); n != 0 || ok {
				t.Errorf("Place(%v) = %d, %v", at, n, ok)
			}
		}
		if at, ok := walk.At(d, 1); len(at) != 0 || ok {
			t.Errorf("At = %v, %v", at, ok)
		}
	}
}

// ascending are lists of which each one precedes all those behind it.
func ascending() [][]int {
	return [][]int{
		{}, {math.MinInt}, {math.MinInt, math.MinInt}, {math.MinInt, math.MaxInt}, {math.MinInt + 1}, {-1}, {-1, 5}, {0}, {0, -1}, {0, 0}, {0, 0, 0}, {0, 0, 1}, {0, 1},
		{0, 1, 0}, {0, 2}, {0, math.MaxInt}, {1}, {1, math.MinInt}, {1, 0}, {1, 1, 1, 1, 1, 1}, {1, 1, 1, 1, 1, 1, 0}, {1, 1, 1, 1, 1, 2}, {1, 2}, {2}, {10}, {10, 0}, {64},
		{math.MaxInt, math.MinInt}, {math.MaxInt, math.MaxInt}, {math.MaxInt, math.MaxInt, math.MinInt},
	}
}

// Promise 20.1: any lists, of equal and of different lengths.
func TestAhead(t *testing.T) {
	all := ascending()
	for i, a := range all {
		for j, b := range all {
			if got := walk.Ahead(withSpare(a), withSpare(b)); got != (i < j) {
				t.Errorf("Ahead(%v, %v) = %v", a, b, got)
			}
		}
		if walk.Ahead(a, a) || walk.Ahead(a, nil) || walk.Ahead(nil, a) != (len(a) > 0) {
			t.Errorf("Ahead of %v itself or of no numbers", a)
		}
		for n := range a {
			if !walk.Ahead(a[:n], a) || walk.Ahead(a, a[:n]) {
				t.Errorf("of %v the first %d are not ahead", a, n)
			}
		}
	}
	if walk.Ahead(nil, nil) || walk.Ahead(nil, []int{}) || walk.Ahead([]int{}, nil) {
		t.Error("of two empty lists one is ahead")
	}
}

// overwrite changes a list up to its capacity.
func overwrite(a []int) {
	a = a[:cap(a)]
	for i := range a {
		a[i] = -77
	}
}

// R4: no call changes its arguments, or the capacity behind them.
func TestArgumentsStay(t *testing.T) {
	for _, c := range [][2][]int{
		{{2, 3}, {0, 2}}, {{2, 3}, {1, 2}}, {{2, 3}, {1, 3}}, {{2, 3}, {1}}, {{1, 1, 4, 1, 1, 1}, {0, 0, 2, 0, 0, 0}}, {{}, {}}, {{8, 9}, {0, 0}}, {{0}, {0}},
	} {
		d, at := withSpare(c[0]), withSpare(c[1])
		wholeD, wholeAt := slices.Clone(d[:cap(d)]), slices.Clone(at[:cap(at)])
		walk.At(d, 1)
		walk.Place(d, at)
		walk.Next(d, at)
		walk.All(d)
		walk.Ahead(d, at)
		if !slices.Equal(d[:cap(d)], wholeD) || !slices.Equal(at[:cap(at)], wholeAt) {
			t.Errorf("%v and %v have changed to %v and %v", c[0], c[1], d, at)
		}
	}
}

// R4: At and Next return new memory.
func TestPlacesApart(t *testing.T) {
	d, at := withSpare([]int{2, 3}), withSpare([]int{0, 2})
	next, _ := walk.Next(d, at)
	again, _ := walk.Next(d, at)
	first, _ := walk.At(d, 3)
	second, _ := walk.At(d, 3)
	overwrite(d)
	overwrite(at)
	overwrite(again)
	overwrite(second)
	if !slices.Equal(next, []int{1, 0}) || !slices.Equal(first, []int{1, 0}) {
		t.Errorf("%v and %v share memory with something", next, first)
	}
	d, at = withSpare([]int{2, 3}), withSpare([]int{0, 2})
	next, _ = walk.Next(d, at)
	first, _ = walk.At(d, 3)
	overwrite(next)
	overwrite(first)
	if !slices.Equal(d, []int{2, 3}) || !slices.Equal(at, []int{0, 2}) {
		t.Errorf("%v and %v share memory with a result", d, at)
	}
}

// R4: what All returns are lists apart from each other, from the dims and from what it returned before.
func TestAllApart(t *testing.T) {
	for _, d := range [][]int{{2, 3}, {64}, {1, 1, 1, 1, 1, 1}, {2, 2, 2, 2, 2, 2}, {3, 1, 2}} {
		given := withSpare(d)
		all, others := walk.All(given), walk.All(given)
		for n := range all {
			overwrite(others[n])
		}
		clear(others[:cap(others)])
		if !slices.Equal(given, d) || !slices.EqualFunc(all, places(d), slices.Equal[[]int]) {
			t.Errorf("All(%v) shares memory with the dims or another result", d)
		}
		overwrite(given)
		for n := range all {
			if !slices.EqualFunc(all[n:], places(d)[n:], slices.Equal[[]int]) {
				t.Fatalf("in All(%v) places share memory", d)
			}
			overwrite(all[n])
		}
	}
}

// R4: one list may be both the dims and the place.
func TestOneListTwice(t *testing.T) {
	l := []int{2, 3}
	if n, ok := walk.Place(l, l); n != 0 || ok {
		t.Errorf("Place = %d, %v", n, ok)
	}
	if next, ok := walk.Next(l, l); len(next) != 0 || ok || walk.Ahead(l, l) {
		t.Errorf("Next = %v, %v", next, ok)
	}
}
