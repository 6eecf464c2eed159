package view_test

import (
	"math"
	"math/big"
	"slices"
	"testing"

	"gradine/api"
	"gradine/view"
)

// withSpare is a copy of a list with capacity behind it that a function could overwrite.
func withSpare(a []int) []int {
	b := slices.Clone(a)
	for range 4 {
		b = append(b, 0x5ca1ab1e)
	}
	return b[:len(a)]
}

// overwrite changes a list up to its capacity.
func overwrite(a []int) {
	a = a[:cap(a)]
	for i := range a {
		a[i] = -77
	}
}

// farOut are numbers far from those of any cell; some of their small multiples are 0 modulo 2^64.
func farOut() []int {
	return []int{math.MinInt, math.MinInt + 1, -1 << 62, -1 << 61, -1 << 32, -65536, 4096, 65536, 1 << 31, 1 << 32, 1<<32 + 1, 1 << 58, 1 << 61, 1 << 62, 3 << 61, math.MaxInt - 1, math.MaxInt}
}

// lists are all lists of n of some numbers.
func lists(n int, of ...int) [][]int {
	out := [][]int{{}}
	for range n {
		var longer [][]int
		for _, l := range out {
			for _, x := range of {
				longer = append(longer, append(slices.Clone(l), x))
			}
		}
		out = longer
	}
	return out
}

// count is the product of dims that are small.
func count(d []int) int {
	n := 1
	for _, size := range d {
		n *= size
	}
	return n
}

// fault is the error of dims as chapter 19 defines it; their product is only taken where no dim is above 64.
func fault(d []int) api.Errno {
	switch {
	case len(d) > 6:
		return api.ErrRank
	case slices.ContainsFunc(d, func(n int) bool { return n < 1 }):
		return api.ErrShape
	case slices.ContainsFunc(d, func(n int) bool { return n > 64 }) || count(d) > 64:
		return api.ErrMany
	}
	return api.OK
}

// badDims are dims that are not valid, some for each of the three errors.
func badDims() [][]int {
	return [][]int{
		{0}, {-1}, {65}, {math.MinInt}, {math.MaxInt}, {8, 9}, {3, 0}, {0, 65}, {65, -1}, {1, 1, 1, 65}, {1 << 32, 1 << 32}, {1 << 62, 4},
		{2, 2, 2, 2, 2, 3}, {1, 1, 1, 1, 1, 0}, {1, 1, 1, 1, 1, 1, 1}, {0, 1, 1, 1, 1, 1, 1}, {65, 1, 1, 1, 1, 1, 1}, make([]int, 100),
	}
}

// places are all places in order: of each one, the next has the last number that can be raised raised, and 0 behind it.
func places(d []int) [][]int {
	var out [][]int
	at := make([]int, len(d))
	for axis := 0; axis >= 0; {
		out = append(out, slices.Clone(at))
		for axis = len(d) - 1; axis >= 0; axis-- {
			if at[axis]++; at[axis] < d[axis] {
				break
			}
			at[axis] = 0
		}
	}
	return out
}

// cell is the cell at a place, or -1 if it is none of 64. The high and the low halves of the numbers are added apart, so that no sum overflows.
func cell(v api.View, at []int) int {
	const half = 1<<32 - 1
	high, low := v.Off>>32, v.Off&half
	for axis, i := range at {
		high += i * (v.Steps[axis] >> 32)
		low += i * (v.Steps[axis] & half)
	}
	if high += low >> 32; high != 0 || low&half > 63 {
		return -1
	}
	return low & half
}

// cells are the cells of a view element by element, each as cell has it.
func cells(v api.View) []int {
	var out []int
	for _, at := range places(v.Dims) {
		out = append(out, cell(v, at))
	}
	return out
}

// need is the least number of cells for which the document says that a view is valid, or 65 if there is none up to 64.
func need(v api.View) int {
	if fault(v.Dims) != api.OK || len(v.Steps) != len(v.Dims) {
		return 65
	}
	c := cells(v)
	if slices.Contains(c, -1) {
		return 65
	}
	return slices.Max(c) + 1
}

// found are the cells that At returns until there is no further element.
func found(v api.View) []int {
	var out []int
	for n := range 100 {
		c, ok := view.At(v, n)
		if !ok {
			break
		}
		out = append(out, c)
	}
	return out
}

// span is the least and the greatest cell of valid dims with small steps, from an offset of 0.
func span(d, steps []int) (int, int) {
	least, greatest := 0, 0
	for axis, size := range d {
		if size > 1 {
			least += min(0, steps[axis]*(size-1))
			greatest += max(0, steps[axis]*(size-1))
		}
	}
	return least, greatest
}

// someViews are valid views with steps of all signs, at the lowest and at the highest cells.
func someViews() []api.View {
	var out []api.View
	add := func(d, steps []int) {
		least, greatest := span(d, steps)
		if greatest-least > 63 {
			return
		}
		out = append(out, api.View{Off: -least, Dims: d, Steps: steps})
		if greatest-least < 63 {
			out = append(out, api.View{Off: 63 - greatest, Dims: d, Steps: steps})
		}
	}
	add(nil, nil)
	for _, d := range [][]int{{1}, {2}, {3}, {4}, {5}, {21}, {63}, {64}} {
		for _, steps := range lists(1, -63, -31, -21, -3, -2, -1, 0, 1, 2, 3, 21, 32, 63) {
			add(d, steps)
		}
	}
	for _, d := range [][]int{{1, 1}, {2, 3}, {3, 2}, {1, 4}, {4, 1}, {2, 2}, {8, 8}, {2, 32}} {
		for _, steps := range lists(2, -32, -8, -3, -1, 0, 1, 2, 3, 8, 32) {
			add(d, steps)
		}
	}
	for _, d := range [][]int{{2, 3, 4}, {1, 3, 2}, {3, 1, 2}, {3, 2, 1}, {2, 2, 2}, {1, 1, 5}} {
		for _, steps := range lists(3, -12, -1, 0, 1, 2, 4, 12) {
			add(d, steps)
		}
	}
	for _, d := range [][]int{{2, 2, 2, 2, 2, 2}, {1, 2, 1, 3, 2, 1}, {1, 1, 1, 1, 1, 1}, {3, 1, 2, 1, 2, 1}} {
		for _, steps := range [][]int{{32, 16, 8, 4, 2, 1}, {-1, -2, -4, -8, -16, -32}, {1, -2, 4, -8, 16, -32}, {0, 0, 0, 0, 0, 0}, {1, 0, 2, 0, 3, 0}, {6, 6, 6, 2, 1, 1}, {4, 4, 2, 2, 1, 1}} {
			add(d, steps)
		}
	}
	for _, far := range farOut() {
		add([]int{1}, []int{far})
		add([]int{1, 3}, []int{far, -2})
		add([]int{3, 1}, []int{1, far})
		add([]int{2, 1, 2}, []int{2, far, 1})
		add([]int{1, 1, 1, 4, 1, 1}, []int{far, far, -far, 1, far, far})
	}
	return out
}

// wrongViews are views that are not valid for 64 cells, for each reason.
func wrongViews() []api.View {
	out := []api.View{
		{Off: -1}, {Off: 64}, {Off: math.MinInt}, {Off: math.MaxInt},
		{Steps: []int{1}}, {Steps: []int{0}}, {Dims: []int{1}}, {Dims: []int{2}}, {Dims: []int{2, 3}, Steps: []int{3}}, {Dims: []int{2, 3}, Steps: []int{6, 3, 1}},
		{Dims: []int{1, 1}, Steps: []int{0}}, {Dims: []int{1, 1}, Steps: []int{0, 0, 0}}, {Dims: []int{2, 3}},
		{Off: 1, Dims: []int{64}, Steps: []int{1}}, {Off: 62, Dims: []int{64}, Steps: []int{-1}}, {Off: -1, Dims: []int{2}, Steps: []int{1}}, {Off: -1, Dims: []int{1}, Steps: []int{0}},
		{Dims: []int{2}, Steps: []int{64}}, {Off: 63, Dims: []int{2}, Steps: []int{-64}}, {Dims: []int{2}, Steps: []int{-1}}, {Off: 63, Dims: []int{2}, Steps: []int{1}},
		{Dims: []int{3}, Steps: []int{32}}, {Off: 1, Dims: []int{2, 2}, Steps: []int{-1, -1}}, {Off: 1, Dims: []int{2, 2}, Steps: []int{2, -2}}, {Off: 62, Dims: []int{2, 2}, Steps: []int{2, -2}},
		{Off: 62, Dims: []int{2, 2}, Steps: []int{1, 1}}, {Dims: []int{2, 2, 2, 2, 2, 2}, Steps: []int{33, 16, 8, 4, 2, 1}},
		{Off: 64, Dims: []int{1}, Steps: []int{0}}, {Off: 64, Dims: []int{2}, Steps: []int{-1}}, {Off: math.MaxInt, Dims: []int{2}, Steps: []int{math.MinInt}},
		{Off: math.MaxInt, Dims: []int{2}, Steps: []int{-math.MaxInt}}, {Off: math.MinInt, Dims: []int{3}, Steps: []int{1 << 62}}, {Off: math.MinInt, Dims: []int{2, 2}, Steps: []int{math.MaxInt, 1}},
	}
	for _, d := range badDims() {
		out = append(out, api.View{Dims: d, Steps: make([]int, len(d))})
	}
	for _, far := range farOut() {
		for _, d := range [][]int{{2}, {3}, {5}, {9}, {64}} {
			out = append(out, api.View{Dims: d, Steps: []int{far}}, api.View{Off: 63, Dims: d, Steps: []int{far}}, api.View{Off: far, Dims: d, Steps: []int{0}})
		}
		out = append(out, api.View{Off: far}, api.View{Off: far, Dims: []int{1}, Steps: []int{-far}}, api.View{Off: far, Dims: []int{2}, Steps: []int{-far}})
		for _, other := range farOut() {
			out = append(out, api.View{Off: 1, Dims: []int{2, 3}, Steps: []int{far, other}}, api.View{Off: other, Dims: []int{5}, Steps: []int{far}})
		}
	}
	return out
}

// equalViews reports whether two views have the same numbers.
func equalViews(a, b api.View) bool {
	return a.Off == b.Off && slices.Equal(a.Dims, b.Dims) && slices.Equal(a.Steps, b.Steps)
}

// wantNoView checks that there is an error and the zero view.
func wantNoView(t *testing.T, what string, got api.View, err, want api.Errno) {
	t.Helper()
	if !equalViews(got, api.View{}) || err != want {
		t.Errorf("%s is %v, %v, want %v", what, got, err, want)
	}
}

// wantView checks a view of another one: its dims, its cells one by one, and that it is valid for as many cells.
func wantView(t *testing.T, what string, of, got api.View, err api.Errno, dims, want []int) {
	t.Helper()
	if err != api.OK || !slices.Equal(got.Dims, dims) || len(got.Steps) != len(dims) {
		t.Errorf("%s of %v is %v, %v, want the dims %v", what, of, got, err, dims)
		return
	}
	if need(got) > need(of) || !view.Right(got, need(of)) {
		t.Errorf("%s of %v is %v, which is not valid for %d cells", what, of, got, need(of))
		return
	}
	if !slices.Equal(cells(got), want) || !slices.Equal(found(got), want) {
		t.Errorf("%s of %v is %v with the cells %v, want %v", what, of, got, cells(got), want)
	}
}

// Promise 22.1: views of all kinds and each number of cells.
func TestRight(t *testing.T) {
	all := append(someViews(), wrongViews()...)
	for _, d := range [][]int{nil, {1}, {2}, {3}, {5}, {64}} {
		for _, steps := range lists(len(d), append(farOut(), -65, -64, -63, -62, -32, -31, -16, -15, -2, -1, 0, 1, 2, 15, 16, 31, 32, 62, 63, 64, 65)...) {
			for _, off := range append(farOut(), -63, -2, -1, 0, 1, 2, 31, 32, 61, 62, 63, 64, 65) {
				all = append(all, api.View{Off: off, Dims: d, Steps: steps})
			}
		}
	}
	for _, v := range all {
		checkRight(t, v)
	}
}

func checkRight(t *testing.T, v api.View) {
	t.Helper()
	least := need(v)
	for room := range 65 {
		if got := view.Right(v, room); got != (room >= least) {
			t.Errorf("Right(%v, %d) = %v", v, room, got)
		}
	}
	for _, room := range append(farOut(), -65, -64, -63, -2, -1, 65, 66, 128) {
		if view.Right(v, room) {
			t.Errorf("Right(%v, %d) = true", v, room)
		}
	}
}

// Promise 22.1: results that are written out.
func TestRightWrittenOut(t *testing.T) {
	for _, c := range []struct {
		v    api.View
		room int
		want bool
	}{
		{api.View{}, 1, true},
		{api.View{}, 64, true},
		{api.View{}, 0, false},
		{api.View{}, -1, false},
		{api.View{}, 65, false},
		{api.View{}, math.MaxInt, false},
		{api.View{}, math.MinInt, false},
		{api.View{Off: 63}, 64, true},
		{api.View{Off: 63}, 63, false},
		{api.View{Off: -1}, 64, false},
		{api.View{Dims: []int{2, 3}, Steps: []int{3, 1}}, 6, true},
		{api.View{Dims: []int{2, 3}, Steps: []int{3, 1}}, 5, false},
		{api.View{Dims: []int{2, 3}, Steps: []int{3, 1}}, 65, false},
		{api.View{Off: 1, Dims: []int{2, 3}, Steps: []int{3, 1}}, 6, false},
		{api.View{Off: 1, Dims: []int{2, 3}, Steps: []int{3, 1}}, 7, true},
		{api.View{Off: 5, Dims: []int{2, 3}, Steps: []int{-3, -1}}, 6, true},
		{api.View{Off: 4, Dims: []int{2, 3}, Steps: []int{-3, -1}}, 6, false},
		{api.View{Off: 2, Dims: []int{2, 3}, Steps: []int{3, -1}}, 6, true},
		{api.View{Off: 1, Dims: []int{2, 3}, Steps: []int{3, -1}}, 6, false},
		{api.View{Dims: []int{4, 16}, Steps: []int{0, 0}}, 1, true},
		{api.View{Dims: []int{64}, Steps: []int{1}}, 64, true},
		{api.View{Dims: []int{64}, Steps: []int{1}}, 63, false},
		{api.View{Dims: []int{2}, Steps: []int{63}}, 64, true},
		{api.View{Off: 63, Dims: []int{2}, Steps: []int{-63}}, 64, true},
		{api.View{Dims: []int{1}, Steps: []int{math.MaxInt}}, 1, true},
		{api.View{Dims: []int{1}, Steps: []int{math.MinInt}}, 1, true},
		{api.View{Off: 3, Dims: []int{1, 2, 1}, Steps: []int{math.MinInt, -3, math.MaxInt}}, 4, true},
		{api.View{Dims: []int{3}, Steps: []int{math.MinInt}}, 64, false},
		{api.View{Dims: []int{5}, Steps: []int{1 << 62}}, 64, false},
		{api.View{Dims: []int{2, 2}, Steps: []int{math.MaxInt, math.MaxInt}}, 64, false},
		{api.View{Off: math.MaxInt, Dims: []int{2}, Steps: []int{math.MinInt}}, 64, false},
		{api.View{Dims: []int{2}}, 64, false},
		{api.View{Dims: []int{1}}, 64, false},
		{api.View{Steps: []int{1}}, 64, false},
		{api.View{Dims: []int{2}, Steps: []int{1, 1}}, 64, false},
		{api.View{Dims: []int{2, 1}, Steps: []int{1}}, 64, false},
		{api.View{Dims: []int{0}, Steps: []int{1}}, 64, false},
		{api.View{Dims: []int{-1}, Steps: []int{0}}, 64, false},
		{api.View{Dims: []int{65}, Steps: []int{0}}, 64, false},
		{api.View{Dims: []int{8, 9}, Steps: []int{0, 0}}, 64, false},
		{api.View{Dims: []int{1, 1, 1, 1, 1, 1, 1}, Steps: []int{0, 0, 0, 0, 0, 0, 0}}, 64, false},
	} {
		if got := view.Right(c.v, c.room); got != c.want {
			t.Errorf("Right(%v, %d) = %v", c.v, c.room, got)
		}
	}
}

// Promise 22.1: each element of valid views, numbers of no element, and views that are not valid.
func TestAt(t *testing.T) {
	for _, v := range someViews() {
		want := cells(v)
		if got := found(v); !slices.Equal(got, want) {
			t.Errorf("the cells of %v are %v, want %v", v, got, want)
		}
		noCell(t, v, append(farOut(), -64, -2, -1, len(want), len(want)+1, 64, 65))
	}
	for _, v := range wrongViews() {
		noCell(t, v, []int{math.MinInt, -1, 0, 1, 2, 63, 64, math.MaxInt})
	}
}

// noCell checks that At says of some numbers that there is no such element.
func noCell(t *testing.T, v api.View, numbers []int) {
	t.Helper()
	for _, n := range numbers {
		if c, ok := view.At(v, n); c != 0 || ok {
			t.Errorf("At(%v, %d) = %d, %v", v, n, c, ok)
		}
	}
}

// Promise 22.1: the steps, and the cells one by one.
func TestWhole(t *testing.T) {
	for _, c := range []struct{ d, steps []int }{
		{nil, nil}, {[]int{}, nil}, {[]int{1}, []int{1}}, {[]int{5}, []int{1}}, {[]int{64}, []int{1}}, {[]int{2, 3}, []int{3, 1}}, {[]int{3, 2}, []int{2, 1}}, {[]int{1, 3}, []int{3, 1}},
		{[]int{3, 1}, []int{1, 1}}, {[]int{2, 3, 4}, []int{12, 4, 1}}, {[]int{2, 1, 4}, []int{4, 4, 1}}, {[]int{1, 1, 1, 1, 1, 1}, []int{1, 1, 1, 1, 1, 1}}, {[]int{2, 2, 2, 2, 2, 2}, []int{32, 16, 8, 4, 2, 1}},
	} {
		got := view.Whole(c.d)
		if want := (api.View{Dims: c.d, Steps: c.steps}); !equalViews(got, want) {
			t.Errorf("Whole(%v) = %v, want %v", c.d, got, want)
		}
		for n := range count(c.d) {
			if at, ok := view.At(got, n); at != n || !ok {
				t.Errorf("At(Whole(%v), %d) = %d, %v", c.d, n, at, ok)
			}
		}
		if !view.Row(got) || !view.Right(got, count(c.d)) || view.Right(got, count(c.d)-1) {
			t.Errorf("Whole(%v) is no row of %d cells", c.d, count(c.d))
		}
	}
	for _, d := range badDims() {
		if got := view.Whole(d); !equalViews(got, api.View{}) {
			t.Errorf("Whole(%v) = %v", d, got)
		}
	}
}

// inRow is what the document says of Row for a valid view.
func inRow(v api.View) bool {
	c := cells(v)
	for n := range c {
		if c[n] != c[0]+n {
			return false
		}
	}
	return true
}

// Promise 22.1: Row of valid views that are rows, valid ones that are not, and views that are not valid.
func TestRow(t *testing.T) {
	rows := 0
	for _, v := range someViews() {
		if got := view.Row(v); got != inRow(v) {
			t.Errorf("Row(%v) = %v, with the cells %v", v, got, cells(v))
		}
		if inRow(v) {
			rows++
		}
	}
	if rows < 20 || rows > len(someViews())-20 {
		t.Errorf("of %d views %d are rows", len(someViews()), rows)
	}
	for _, v := range wrongViews() {
		if view.Row(v) {
			t.Errorf("Row(%v) = true", v)
		}
	}
}

// Promise 22.1: results that are written out.
func TestRowWrittenOut(t *testing.T) {
	for _, c := range []struct {
		v    api.View
		want bool
	}{
		{api.View{}, true},
		{api.View{Off: 63}, true},
		{api.View{Off: 64}, false},
		{api.View{Off: 7, Dims: []int{1, 1}, Steps: []int{math.MinInt, 0}}, true},
		{api.View{Dims: []int{2, 3}, Steps: []int{3, 1}}, true},
		{api.View{Off: 58, Dims: []int{2, 3}, Steps: []int{3, 1}}, true},
		{api.View{Off: 59, Dims: []int{2, 3}, Steps: []int{3, 1}}, false},
		{api.View{Dims: []int{2, 3}, Steps: []int{4, 1}}, false},
		{api.View{Dims: []int{2, 3}, Steps: []int{1, 2}}, false},
		{api.View{Dims: []int{2, 3}, Steps: []int{0, 1}}, false},
		{api.View{Dims: []int{2, 3}, Steps: []int{3, 0}}, false},
		{api.View{Off: 5, Dims: []int{2, 3}, Steps: []int{-3, -1}}, false},
		{api.View{Dims: []int{2, 1, 3}, Steps: []int{3, -9, 1}}, true},
		{api.View{Dims: []int{1, 2, 3}, Steps: []int{0, 3, 1}}, true},
		{api.View{Dims: []int{2, 3, 1}, Steps: []int{3, 1, 50}}, true},
		{api.View{Dims: []int{2}, Steps: []int{2}}, false},
		{api.View{Off: 1, Dims: []int{2}, Steps: []int{-1}}, false},
		{api.View{Dims: []int{64}, Steps: []int{1}}, true},
		{api.View{Dims: []int{64}, Steps: []int{0}}, false},
		{api.View{Dims: []int{2, 3}, Steps: []int{3, 1, 1}}, false},
		{api.View{Dims: []int{2, 3}, Steps: []int{3}}, false},
		{api.View{Dims: []int{65}, Steps: []int{1}}, false},
	} {
		if got := view.Row(c.v); got != c.want {
			t.Errorf("Row(%v) = %v", c.v, got)
		}
	}
}

// orders are permutations of n axes: all of up to three, some of more.
func orders(n int) [][]int {
	switch n {
	case 0:
		return [][]int{nil, {}}
	case 1:
		return [][]int{{0}}
	case 2:
		return [][]int{{0, 1}, {1, 0}}
	case 3:
		return [][]int{{0, 1, 2}, {0, 2, 1}, {1, 0, 2}, {1, 2, 0}, {2, 0, 1}, {2, 1, 0}}
	}
	return [][]int{{0, 1, 2, 3, 4, 5}, {5, 4, 3, 2, 1, 0}, {1, 2, 3, 4, 5, 0}, {3, 0, 5, 1, 2, 4}, {0, 1, 2, 3, 5, 4}}
}

// inverse are the axes that permute back.
func inverse(axes []int) []int {
	out := make([]int, len(axes))
	for i, axis := range axes {
		out[axis] = i
	}
	return out
}

// Promises 22.2 and 22.4: each element, and the axes permuted back.
func TestPermute(t *testing.T) {
	for _, v := range someViews() {
		for _, axes := range orders(len(v.Dims)) {
			dims := make([]int, len(axes))
			for i, axis := range axes {
				dims[i] = v.Dims[axis]
			}
			var want []int
			for _, p := range places(dims) {
				at := make([]int, len(p))
				for i, axis := range axes {
					at[axis] = p[i]
				}
				want = append(want, cell(v, at))
			}
			got, err := view.Permute(v, axes)
			wantView(t, "Permute", v, got, err, dims, want)
			back, err := view.Permute(got, inverse(axes))
			wantView(t, "Permute back", v, back, err, v.Dims, cells(v))
		}
	}
}

// wrongAxes are lists that do not name each of n axes once.
func wrongAxes(n int) [][]int {
	all := orders(n)[0]
	out := [][]int{append(slices.Clone(all), 0), append(slices.Clone(all), n), append([]int{-1}, all...), make([]int, 100)}
	if n > 0 {
		out = append(out, nil, []int{}, all[1:], all[:n-1])
	}
	for i := range n {
		for _, bad := range append(farOut(), -2, -1, n, n+1, all[(i+1)%n]) {
			if n > 1 || bad != 0 {
				changed := slices.Clone(all)
				changed[i] = bad
				out = append(out, changed)
			}
		}
	}
	return out
}

// Promise 22.2 and R2.
func TestPermuteErrors(t *testing.T) {
	for _, d := range [][]int{nil, {1}, {5}, {2, 3}, {1, 1}, {2, 1, 3}, {2, 2, 2, 2, 2, 2}, {1, 1, 1, 1, 1, 1}} {
		for _, axes := range wrongAxes(len(d)) {
			got, err := view.Permute(view.Whole(d), axes)
			wantNoView(t, "Permute", got, err, api.ErrAxis)
		}
	}
	for _, v := range wrongViews() {
		for _, axes := range [][]int{nil, {0}, {1}, {-1}, {0, 1}, {1, 0}, {0, 0}} {
			got, err := view.Permute(v, axes)
			wantNoView(t, "Permute", got, err, api.ErrArg)
		}
	}
}

// numbers are those that Slice selects of an axis, and true; false if the document says ErrIndex.
func numbers(size, from, count, step int) ([]int, bool) {
	if count < 1 || count > size || count > 1 && step == 0 {
		return nil, false
	}
	var out []int
	for k := range count {
		i := new(big.Int).Mul(big.NewInt(int64(k)), big.NewInt(int64(step)))
		i.Add(i, big.NewInt(int64(from)))
		if i.Sign() < 0 || i.Cmp(big.NewInt(int64(size))) >= 0 {
			return nil, false
		}
		out = append(out, int(i.Int64()))
	}
	return out, true
}

func checkSlice(t *testing.T, v api.View, axis, from, count, step int) {
	t.Helper()
	got, err := view.Slice(v, axis, from, count, step)
	chosen, ok := numbers(v.Dims[axis], from, count, step)
	if !ok {
		if !equalViews(got, api.View{}) || err != api.ErrIndex {
			t.Errorf("Slice(%v, %d, %d, %d, %d) = %v, %v", v, axis, from, count, step, got, err)
		}
		return
	}
	dims := slices.Clone(v.Dims)
	dims[axis] = count
	var want []int
	for _, at := range places(dims) {
		at[axis] = chosen[at[axis]]
		want = append(want, cell(v, at))
	}
	wantView(t, "Slice", v, got, err, dims, want)
}

// Promises 22.2 and 22.4: each number, count and step near an axis of a few views.
func TestSliceNear(t *testing.T) {
	for _, v := range []api.View{
		view.Whole([]int{1}), view.Whole([]int{5}), view.Whole([]int{2, 3}), view.Whole([]int{3, 1, 4}), {Off: 40, Dims: []int{7}, Steps: []int{-6}}, {Off: 9, Dims: []int{6}, Steps: []int{0}},
		{Off: 10, Dims: []int{4, 3}, Steps: []int{-3, 5}}, {Off: 3, Dims: []int{1, 2}, Steps: []int{math.MinInt, 8}}, {Off: 63, Dims: []int{1}, Steps: []int{math.MaxInt}},
	} {
		for axis, size := range v.Dims {
			for from := -2; from < size+2; from++ {
				for count := -1; count < size+2; count++ {
					for step := -size - 1; step < size+2; step++ {
						checkSlice(t, v, axis, from, count, step)
					}
				}
			}
		}
	}
}

// Promises 22.2 and 22.4: numbers, counts and steps of all sizes.
func TestSlice(t *testing.T) {
	far := farOut()
	for k, v := range someViews() {
		for axis, size := range v.Dims {
			checkSlice(t, v, axis, 0, size, 1)
			checkSlice(t, v, axis, size-1, size, -1)
			checkSlice(t, v, axis, size/2, 1, far[k%len(far)])
			checkSlice(t, v, axis, size-1, 1, 0)
			checkSlice(t, v, axis, size/3, (size+1)/2, 1)
			checkSlice(t, v, axis, size-1, (size+1)/2, -2)
			checkSlice(t, v, axis, 0, 2, size-1)
			checkSlice(t, v, axis, size-1, 2, 1-size)
		}
	}
	for _, v := range []api.View{view.Whole([]int{1}), view.Whole([]int{2}), view.Whole([]int{5}), view.Whole([]int{64}), {Off: 63, Dims: []int{3, 2}, Steps: []int{-2, -1}}} {
		for _, a := range append(far, -1, 0, 1, 2, 3) {
			for _, b := range append(far, -1, 0, 1, 2, 3) {
				for _, near := range []int{0, 1, 2, 3, 4, 5} {
					checkSlice(t, v, 0, a, b, near)
					checkSlice(t, v, 0, a, near, b)
					checkSlice(t, v, 0, near, a, b)
				}
			}
		}
	}
}

// Promise 22.2: results that are written out.
func TestSliceWrittenOut(t *testing.T) {
	whole := view.Whole([]int{2, 3})
	for _, c := range []struct {
		v                       api.View
		axis, from, count, step int
		dims, cells             []int
		err                     api.Errno
	}{
		{whole, 1, 2, 2, -2, []int{2, 2}, []int{2, 0, 5, 3}, api.OK},
		{whole, 1, 0, 3, 1, []int{2, 3}, []int{0, 1, 2, 3, 4, 5}, api.OK},
		{whole, 1, 0, 2, 2, []int{2, 2}, []int{0, 2, 3, 5}, api.OK},
		{whole, 1, 1, 2, 1, []int{2, 2}, []int{1, 2, 4, 5}, api.OK},
		{whole, 1, 1, 2, -1, []int{2, 2}, []int{1, 0, 4, 3}, api.OK},
		{whole, 0, 1, 1, 0, []int{1, 3}, []int{3, 4, 5}, api.OK},
		{whole, 0, 0, 1, math.MinInt, []int{1, 3}, []int{0, 1, 2}, api.OK},
		{whole, 0, 1, 1, math.MaxInt, []int{1, 3}, []int{3, 4, 5}, api.OK},
		{whole, 0, 1, 2, -1, []int{2, 3}, []int{3, 4, 5, 0, 1, 2}, api.OK},
		{whole, 1, 2, 1, 7, []int{2, 1}, []int{2, 5}, api.OK},
		{whole, 1, 1, 2, 2, nil, nil, api.ErrIndex},
		{whole, 1, 1, 2, -2, nil, nil, api.ErrIndex},
		{whole, 1, 0, 2, 3, nil, nil, api.ErrIndex},
		{whole, 1, 0, 3, 2, nil, nil, api.ErrIndex},
		{whole, 1, 0, 3, 1 << 62, nil, nil, api.ErrIndex},
		{whole, 1, 0, 3, math.MinInt, nil, nil, api.ErrIndex},
		{whole, 1, 0, 4, 1, nil, nil, api.ErrIndex},
		{whole, 1, 0, 0, 1, nil, nil, api.ErrIndex},
		{whole, 1, 0, -1, 1, nil, nil, api.ErrIndex},
		{whole, 1, 0, 2, 0, nil, nil, api.ErrIndex},
		{whole, 1, 0, math.MaxInt, 0, nil, nil, api.ErrIndex},
		{whole, 1, 0, math.MinInt, 1, nil, nil, api.ErrIndex},
		{whole, 1, 3, 1, 0, nil, nil, api.ErrIndex},
		{whole, 1, -1, 1, 1, nil, nil, api.ErrIndex},
		{whole, 1, -1, 2, 1, nil, nil, api.ErrIndex},
		{whole, 1, 3, 2, -1, nil, nil, api.ErrIndex},
		{whole, 1, math.MaxInt, 2, math.MaxInt, nil, nil, api.ErrIndex},
		{whole, 1, math.MinInt, 2, math.MinInt, nil, nil, api.ErrIndex},
		{whole, 2, 0, 1, 1, nil, nil, api.ErrAxis},
		{whole, -1, 0, 1, 1, nil, nil, api.ErrAxis},
		{whole, 2, 0, 0, 0, nil, nil, api.ErrAxis},
		{whole, -1, 5, 5, 0, nil, nil, api.ErrAxis},
		{whole, math.MaxInt, 0, 1, 1, nil, nil, api.ErrAxis},
		{whole, math.MinInt, 0, 1, 1, nil, nil, api.ErrAxis},
		{view.Whole(nil), 0, 0, 1, 1, nil, nil, api.ErrAxis},
		{api.View{Off: 60, Dims: []int{5}, Steps: []int{1}}, 0, 0, 1, 1, nil, nil, api.ErrArg},
		{api.View{Off: 60, Dims: []int{5}, Steps: []int{1}}, 1, 0, 1, 1, nil, nil, api.ErrArg},
		{api.View{Off: 60, Dims: []int{5}, Steps: []int{1}}, 0, 9, 9, 0, nil, nil, api.ErrArg},
		{api.View{Off: 60, Dims: []int{5}, Steps: []int{-15}}, 0, 4, 3, -2, []int{3}, []int{0, 30, 60}, api.OK},
		{api.View{Off: 6, Dims: []int{3, 2}, Steps: []int{-2, 0}}, 0, 0, 2, 2, []int{2, 2}, []int{6, 6, 2, 2}, api.OK},
	} {
		got, err := view.Slice(c.v, c.axis, c.from, c.count, c.step)
		if c.err != api.OK {
			wantNoView(t, "Slice", got, err, c.err)
			continue
		}
		wantView(t, "Slice", c.v, got, err, c.dims, c.cells)
	}
}

// Promise 22.2 and R2.
func TestAxisErrors(t *testing.T) {
	for _, v := range someViews()[:400] {
		for _, axis := range append(farOut(), -2, -1, len(v.Dims), len(v.Dims)+1) {
			for _, count := range []int{0, 1} {
				got, err := view.Slice(v, axis, 0, count, 1)
				wantNoView(t, "Slice", got, err, api.ErrAxis)
			}
			got, err := view.Flip(v, axis)
			wantNoView(t, "Flip", got, err, api.ErrAxis)
		}
	}
	for _, v := range wrongViews() {
		for _, axis := range append(farOut(), -1, 0, 1, len(v.Dims)) {
			for _, count := range []int{0, 1} {
				got, err := view.Slice(v, axis, 0, count, 1)
				wantNoView(t, "Slice", got, err, api.ErrArg)
			}
			got, err := view.Flip(v, axis)
			wantNoView(t, "Flip", got, err, api.ErrArg)
		}
	}
}

// Promises 22.2 and 22.4: each axis reversed, and reversed again.
func TestFlip(t *testing.T) {
	for _, v := range someViews() {
		for axis, size := range v.Dims {
			var want []int
			for _, at := range places(v.Dims) {
				at[axis] = size - 1 - at[axis]
				want = append(want, cell(v, at))
			}
			got, err := view.Flip(v, axis)
			wantView(t, "Flip", v, got, err, v.Dims, want)
			back, err := view.Flip(got, axis)
			wantView(t, "Flip twice", v, back, err, v.Dims, cells(v))
		}
	}
}

// Promise 22.2: results that are written out.
func TestFlipWrittenOut(t *testing.T) {
	for _, c := range []struct {
		v           api.View
		axis        int
		off         int
		steps       []int
		cells       []int
		unspecified int
	}{
		{view.Whole([]int{2, 3}), 0, 3, []int{-3, 1}, []int{3, 4, 5, 0, 1, 2}, -1},
		{view.Whole([]int{2, 3}), 1, 2, []int{3, -1}, []int{2, 1, 0, 5, 4, 3}, -1},
		{view.Whole([]int{64}), 0, 63, []int{-1}, nil, -1},
		{api.View{Off: 8, Dims: []int{3}, Steps: []int{-4}}, 0, 0, []int{4}, []int{0, 4, 8}, -1},
		{api.View{Off: 8, Dims: []int{3}, Steps: []int{0}}, 0, 8, []int{0}, []int{8, 8, 8}, -1},
		{api.View{Off: 8, Dims: []int{1, 2}, Steps: []int{math.MinInt, 5}}, 0, 8, []int{0, 5}, []int{8, 13}, 0},
		{api.View{Off: 8, Dims: []int{1, 2}, Steps: []int{math.MinInt, 5}}, 1, 13, []int{0, -5}, []int{13, 8}, 0},
	} {
		got, err := view.Flip(c.v, c.axis)
		if err != api.OK || got.Off != c.off || !slices.Equal(got.Dims, c.v.Dims) || len(got.Steps) != len(c.steps) {
			t.Errorf("Flip(%v, %d) = %v, %v", c.v, c.axis, got, err)
			continue
		}
		for axis, step := range c.steps {
			if axis != c.unspecified && got.Steps[axis] != step {
				t.Errorf("Flip(%v, %d) = %v, want the steps %v", c.v, c.axis, got, c.steps)
			}
		}
		if c.cells != nil && !slices.Equal(found(got), c.cells) {
			t.Errorf("Flip(%v, %d) has the cells %v", c.v, c.axis, found(got))
		}
	}
}

// fits reports whether dims fit other valid ones, axis by axis from the last one on.
func fits(from, to []int) bool {
	if len(from) > len(to) {
		return false
	}
	for axis, size := range from {
		if size != 1 && size != to[len(to)-len(from)+axis] {
			return false
		}
	}
	return true
}

// someDims are valid dims of each length, with many and with few elements.
func someDims() [][]int {
	var out [][]int
	for n := range 4 {
		out = append(out, lists(n, 1, 2, 3)...)
	}
	return append(out, []int{4}, []int{5}, []int{6}, []int{21}, []int{63}, []int{64}, []int{1, 64}, []int{64, 1}, []int{8, 8}, []int{2, 32}, []int{32, 2}, []int{6, 5}, []int{3, 21}, []int{21, 3},
		[]int{2, 3, 4}, []int{4, 3, 2}, []int{4, 2, 3}, []int{4, 4, 4}, []int{7, 1, 2, 2}, []int{2, 2, 3, 4}, []int{5, 2, 1, 3, 2}, []int{2, 2, 2, 2, 2, 2}, []int{1, 2, 1, 3, 2, 1}, []int{1, 2, 5, 3, 2, 1}, []int{1, 1, 1, 1, 1, 1}, []int{3, 1, 2, 1, 2, 5})
}

// Promises 22.2 and 22.4: the broadcast elements, or the error of the dims.
func TestExpand(t *testing.T) {
	dims := someDims()
	for _, v := range someViews() {
		for _, d := range dims {
			got, err := view.Expand(v, d)
			if !fits(v.Dims, d) {
				wantNoView(t, "Expand", got, err, api.ErrShape)
				continue
			}
			var want []int
			for _, p := range places(d) {
				at := slices.Clone(p[len(d)-len(v.Dims):])
				for axis, size := range v.Dims {
					if size == 1 {
						at[axis] = 0
					}
				}
				want = append(want, cell(v, at))
			}
			wantView(t, "Expand", v, got, err, d, want)
		}
	}
}

// Promise 22.2: results that are written out; steps of -77 are unspecified.
func TestExpandWrittenOut(t *testing.T) {
	for _, c := range []struct {
		v           api.View
		dims, steps []int
		cells       []int
	}{
		{view.Whole([]int{2, 3}), []int{4, 2, 3}, []int{0, 3, 1}, slices.Repeat([]int{0, 1, 2, 3, 4, 5}, 4)},
		{view.Whole([]int{3}), []int{2, 3}, []int{0, 1}, []int{0, 1, 2, 0, 1, 2}},
		{view.Whole([]int{2, 1}), []int{2, 3}, []int{1, 0}, []int{0, 0, 0, 1, 1, 1}},
		{view.Whole([]int{1, 3}), []int{2, 3}, []int{0, 1}, []int{0, 1, 2, 0, 1, 2}},
		{view.Whole([]int{2, 3}), []int{2, 3}, []int{3, 1}, []int{0, 1, 2, 3, 4, 5}},
		{view.Whole([]int{3}), []int{1, 3}, []int{-77, 1}, []int{0, 1, 2}},
		{view.Whole(nil), []int{2, 2}, []int{0, 0}, []int{0, 0, 0, 0}},
		{view.Whole(nil), nil, nil, []int{0}},
		{api.View{Off: 5, Dims: []int{1}, Steps: []int{math.MaxInt}}, []int{3}, []int{0}, []int{5, 5, 5}},
		{api.View{Off: 5, Dims: []int{1, 2}, Steps: []int{math.MinInt, -4}}, []int{2, 2}, []int{0, -4}, []int{5, 1, 5, 1}},
		{api.View{Off: 5, Dims: []int{2}, Steps: []int{-4}}, []int{2, 1, 2}, []int{0, -77, -4}, []int{5, 1, 5, 1}},
	} {
		got, err := view.Expand(c.v, c.dims)
		wantView(t, "Expand", c.v, got, err, c.dims, c.cells)
		for axis, step := range c.steps {
			if step != -77 && got.Steps[axis] != step {
				t.Errorf("Expand(%v, %v) = %v, want the steps %v", c.v, c.dims, got, c.steps)
			}
		}
	}
}

// Promise 22.2: Reshape of views that are rows and of others, to dims with as many elements and with another number of them.
func TestReshape(t *testing.T) {
	dims := someDims()
	for _, v := range someViews() {
		for _, d := range dims {
			got, err := view.Reshape(v, d)
			switch {
			case count(d) != count(v.Dims):
				wantNoView(t, "Reshape", got, err, api.ErrShape)
			case !inRow(v):
				wantNoView(t, "Reshape", got, err, api.ErrView)
			default:
				wantView(t, "Reshape", v, got, err, d, cells(v))
			}
		}
	}
}

// Promise 22.2: results that are written out.
func TestReshapeWrittenOut(t *testing.T) {
	for _, c := range []struct {
		v    api.View
		dims []int
		err  api.Errno
	}{
		{view.Whole([]int{2, 3}), []int{3, 2}, api.OK},
		{view.Whole([]int{2, 3}), []int{6}, api.OK},
		{view.Whole([]int{2, 3}), []int{1, 6, 1, 1, 1, 1}, api.OK},
		{view.Whole([]int{2, 3}), []int{2, 3}, api.OK},
		{view.Whole([]int{2, 3}), []int{5}, api.ErrShape},
		{view.Whole([]int{2, 3}), nil, api.ErrShape},
		{view.Whole([]int{2, 3}), []int{-2, -3}, api.ErrShape},
		{view.Whole([]int{2, 3}), []int{65}, api.ErrMany},
		{view.Whole([]int{2, 3}), []int{1, 1, 1, 1, 1, 1, 6}, api.ErrRank},
		{view.Whole(nil), []int{1, 1}, api.OK},
		{view.Whole([]int{1}), nil, api.OK},
		{api.View{Off: 60, Dims: []int{2, 2}, Steps: []int{2, 1}}, []int{4}, api.OK},
		{api.View{Off: 60, Dims: []int{1, 4, 1}, Steps: []int{-9, 1, math.MinInt}}, []int{2, 2}, api.OK},
		{api.View{Off: 60, Dims: []int{1}, Steps: []int{math.MinInt}}, []int{1, 1}, api.OK},
		{api.View{Off: 3, Dims: []int{4}, Steps: []int{-1}}, []int{2, 2}, api.ErrView},
		{api.View{Off: 3, Dims: []int{4}, Steps: []int{-1}}, []int{4}, api.ErrView},
		{api.View{Off: 3, Dims: []int{4}, Steps: []int{0}}, []int{2, 2}, api.ErrView},
		{api.View{Off: 3, Dims: []int{4}, Steps: []int{2}}, []int{5}, api.ErrShape},
		{api.View{Off: 3, Dims: []int{4}, Steps: []int{2}}, []int{65}, api.ErrMany},
		{api.View{Dims: []int{2, 3}, Steps: []int{1, 2}}, []int{6}, api.ErrView},
		{api.View{Off: 61, Dims: []int{2, 2}, Steps: []int{2, 1}}, []int{4}, api.ErrArg},
		{api.View{Off: 61, Dims: []int{2, 2}, Steps: []int{2, 1}}, []int{5}, api.ErrArg},
		{api.View{Off: 61, Dims: []int{2, 2}, Steps: []int{2, 1}}, []int{0}, api.ErrArg},
	} {
		got, err := view.Reshape(c.v, c.dims)
		if c.err != api.OK {
			wantNoView(t, "Reshape", got, err, c.err)
			continue
		}
		wantView(t, "Reshape", c.v, got, err, c.dims, cells(c.v))
	}
}

// Promise 22.2 and R2: the error of a view that is not valid is ahead of that of the dims, and that one ahead of the others.
func TestDimsErrors(t *testing.T) {
	for _, d := range badDims() {
		for _, v := range []api.View{{}, view.Whole([]int{2, 3}), {Off: 9, Dims: []int{4}, Steps: []int{-2}}} {
			got, err := view.Expand(v, d)
			wantNoView(t, "Expand", got, err, fault(d))
			got, err = view.Reshape(v, d)
			wantNoView(t, "Reshape", got, err, fault(d))
		}
	}
	for _, v := range wrongViews() {
		for _, d := range append(badDims(), v.Dims, nil, []int{1}, []int{2}, []int{64}) {
			got, err := view.Expand(v, d)
			wantNoView(t, "Expand", got, err, api.ErrArg)
			got, err = view.Reshape(v, d)
			wantNoView(t, "Reshape", got, err, api.ErrArg)
		}
	}
}

// Promise 22.2: the document's example.
func TestPermuteWrittenOut(t *testing.T) {
	got, err := view.Permute(view.Whole([]int{2, 3}), []int{1, 0})
	if want := (api.View{Dims: []int{3, 2}, Steps: []int{1, 3}}); !equalViews(got, want) || err != api.OK {
		t.Errorf("Permute = %v, %v, want %v", got, err, want)
	}
	got, err = view.Permute(view.Whole([]int{2, 3, 4}), []int{1, 2, 0})
	if want := (api.View{Dims: []int{3, 4, 2}, Steps: []int{4, 1, 12}}); !equalViews(got, want) || err != api.OK {
		t.Errorf("Permute = %v, %v, want %v", got, err, want)
	}
	got, err = view.Permute(api.View{Off: 9, Dims: []int{2, 3}, Steps: []int{-4, -1}}, []int{1, 0})
	if want := (api.View{Off: 9, Dims: []int{3, 2}, Steps: []int{-1, -4}}); !equalViews(got, want) || err != api.OK {
		t.Errorf("Permute = %v, %v, want %v", got, err, want)
	}
}

// link is a view of the one before it: how it is made, its dims and its cells.
type link struct {
	name        string
	next        func(v api.View) (api.View, api.Errno)
	dims, cells []int
}

// chain are views of views, from 4 by 6 cells on.
func chain() []link {
	return []link{
		{"rows 1 and 2", func(v api.View) (api.View, api.Errno) { return view.Slice(v, 0, 1, 2, 1) }, []int{2, 6}, []int{6, 7, 8, 9, 10, 11, 12, 13, 14, 15, 16, 17}},
		{"two by three by two", func(v api.View) (api.View, api.Errno) { return view.Reshape(v, []int{2, 3, 2}) }, []int{2, 3, 2}, []int{6, 7, 8, 9, 10, 11, 12, 13, 14, 15, 16, 17}},
		{"the last axis first", func(v api.View) (api.View, api.Errno) { return view.Permute(v, []int{2, 0, 1}) }, []int{2, 2, 3}, []int{6, 8, 10, 12, 14, 16, 7, 9, 11, 13, 15, 17}},
		{"the last axis reversed", func(v api.View) (api.View, api.Errno) { return view.Flip(v, 2) }, []int{2, 2, 3}, []int{10, 8, 6, 16, 14, 12, 11, 9, 7, 17, 15, 13}},
		{"every other one, from the end", func(v api.View) (api.View, api.Errno) { return view.Slice(v, 2, 2, 2, -2) }, []int{2, 2, 2}, []int{6, 10, 12, 16, 7, 11, 13, 17}},
		{"the second one", func(v api.View) (api.View, api.Errno) { return view.Slice(v, 1, 1, 1, math.MinInt) }, []int{2, 1, 2}, []int{12, 16, 13, 17}},
		{"the second one three times", func(v api.View) (api.View, api.Errno) { return view.Expand(v, []int{2, 3, 2}) }, []int{2, 3, 2}, []int{12, 16, 12, 16, 12, 16, 13, 17, 13, 17, 13, 17}},
		{"reversed again", func(v api.View) (api.View, api.Errno) { return view.Flip(v, 0) }, []int{2, 3, 2}, []int{13, 17, 13, 17, 13, 17, 12, 16, 12, 16, 12, 16}},
		{"one column", func(v api.View) (api.View, api.Errno) { return view.Slice(v, 2, 0, 1, 0) }, []int{2, 3, 1}, []int{13, 13, 13, 12, 12, 12}},
		{"one row", func(v api.View) (api.View, api.Errno) { return view.Slice(v, 1, 2, 1, 5) }, []int{2, 1, 1}, []int{13, 12}},
		{"forward", func(v api.View) (api.View, api.Errno) { return view.Flip(v, 0) }, []int{2, 1, 1}, []int{12, 13}},
		{"a list", func(v api.View) (api.View, api.Errno) { return view.Reshape(v, []int{2}) }, []int{2}, []int{12, 13}},
		{"the last one", func(v api.View) (api.View, api.Errno) { return view.Slice(v, 0, 1, 1, 1) }, []int{1}, []int{13}},
		{"without axes", func(v api.View) (api.View, api.Errno) { return view.Reshape(v, nil) }, nil, []int{13}},
	}
}

// Promises 22.2 and 22.4: views of views, one by one.
func TestChain(t *testing.T) {
	v := view.Whole([]int{4, 6})
	for _, c := range chain() {
		next, err := c.next(v)
		wantView(t, c.name, v, next, err, c.dims, c.cells)
		if !view.Right(next, 24) {
			t.Errorf("%s, %v, is not valid for 24 cells", c.name, next)
		}
		v = next
	}
}

// Promise 22.4: all views of views of a few steps have cells of the first one only.
func TestViewsOfViews(t *testing.T) {
	for _, first := range []api.View{view.Whole([]int{2, 3}), {Off: 20, Dims: []int{3, 2}, Steps: []int{-7, 3}}, {Off: 4, Dims: []int{1, 3}, Steps: []int{math.MaxInt, 0}}} {
		all := []api.View{first}
		for range 3 {
			var more []api.View
			for _, v := range all {
				more = append(more, viewsOf(v)...)
			}
			all = more
		}
		for _, v := range all {
			for _, c := range found(v) {
				if !slices.Contains(cells(first), c) {
					t.Errorf("%v, made of %v, has the cell %d", v, first, c)
				}
			}
			if !view.Right(v, need(first)) || len(found(v)) != count(v.Dims) {
				t.Errorf("%v, made of %v, is not valid for %d cells", v, first, need(first))
			}
		}
	}
}

// viewsOf are views of a view, by each function.
func viewsOf(v api.View) []api.View {
	var out []api.View
	add := func(v api.View, err api.Errno) {
		if err == api.OK {
			out = append(out, v)
		}
	}
	add(view.Permute(v, []int{1, 0}))
	add(view.Reshape(v, []int{3, 2}))
	add(view.Expand(v, []int{2, 3}))
	add(view.Expand(v, []int{3, 2}))
	for axis := range v.Dims {
		add(view.Flip(v, axis))
		add(view.Slice(v, axis, 0, 1, math.MinInt))
		add(view.Slice(v, axis, 1, 2, 1))
		add(view.Slice(v, axis, 2, 2, -2))
	}
	return out
}

// results are the views that calls return for a view and lists of axes and of dims.
func results(v api.View, axes, dims []int) []api.View {
	out := []api.View{view.Whole(dims), view.Whole(v.Dims)}
	add := func(v api.View, _ api.Errno) {
		out = append(out, v)
	}
	add(view.Permute(v, axes))
	add(view.Expand(v, dims))
	add(view.Expand(v, v.Dims))
	add(view.Reshape(v, dims))
	add(view.Reshape(v, v.Dims))
	for axis, size := range v.Dims {
		add(view.Slice(v, axis, 0, size, 1))
		add(view.Slice(v, axis, size-1, 1, 0))
		add(view.Flip(v, axis))
	}
	return out
}

// parts are the lists of views.
func parts(views []api.View) [][]int {
	var out [][]int
	for _, v := range views {
		out = append(out, v.Dims, v.Steps)
	}
	return out
}

// copies are copies of lists.
func copies(l [][]int) [][]int {
	var out [][]int
	for _, a := range l {
		out = append(out, slices.Clone(a))
	}
	return out
}

func equalLists(a, b [][]int) bool {
	return slices.EqualFunc(a, b, slices.Equal[[]int])
}

// given is a view with axes and dims for the calls.
type given struct {
	v          api.View
	axes, dims []int
}

// arguments are views with axes and dims, among them wrong ones.
func arguments() []given {
	return []given{
		{view.Whole([]int{2, 3}), []int{1, 0}, []int{3, 2}}, {view.Whole([]int{2, 3}), []int{0, 1}, []int{2, 3}}, {view.Whole([]int{2, 3}), []int{1, 0}, []int{4, 2, 3}},
		{view.Whole([]int{6}), []int{0}, []int{6}}, {view.Whole([]int{1}), []int{0}, []int{5}}, {view.Whole([]int{1}), []int{0}, []int{}}, {view.Whole(nil), nil, []int{1}},
		{api.View{Off: 9, Dims: []int{1, 2, 3}, Steps: []int{math.MinInt, -3, -2}}, []int{2, 0, 1}, []int{5, 2, 3}}, {view.Whole([]int{2, 2, 2, 2, 2, 2}), []int{5, 4, 3, 2, 1, 0}, []int{64}},
		{view.Whole([]int{2, 3}), []int{1, 1}, []int{0}}, {view.Whole([]int{2, 3}), []int{2}, []int{7}}, {api.View{Off: 60, Dims: []int{2, 3}, Steps: []int{3, 1}}, []int{1, 0}, []int{6}},
		{api.View{Dims: []int{2, 3}, Steps: []int{1}}, []int{1, 0}, []int{6}}, {api.View{Dims: []int{2}, Steps: []int{1, 1}}, []int{0}, []int{2}},
	}
}

// roomy is the same with capacity behind each list.
func roomy(g given) given {
	g.v.Dims, g.v.Steps = withSpare(g.v.Dims), withSpare(g.v.Steps)
	g.axes, g.dims = withSpare(g.axes), withSpare(g.dims)
	return g
}

// whole are the lists of the arguments up to their capacity.
func whole(g given) [][]int {
	var out [][]int
	for _, l := range [][]int{g.v.Dims, g.v.Steps, g.axes, g.dims} {
		out = append(out, l[:cap(l)])
	}
	return out
}

// R4: no call changes its arguments, or the capacity behind them.
func TestArgumentsStay(t *testing.T) {
	for _, plain := range arguments() {
		g := roomy(plain)
		before := copies(whole(g))
		results(g.v, g.axes, g.dims)
		view.Row(g.v)
		for n := -1; n < 7; n++ {
			view.Right(g.v, n)
			view.At(g.v, n)
			view.Flip(g.v, n)
			view.Slice(g.v, n, 0, 2, 1)
			view.Slice(g.v, n, 1, 2, -1)
		}
		if !equalLists(whole(g), before) {
			t.Errorf("%v has changed to %v", plain, g)
		}
	}
}

// R4: results are new memory: they neither change with the arguments nor with each other, nor do the arguments with them.
func TestResultsApart(t *testing.T) {
	for _, plain := range arguments() {
		g := roomy(plain)
		before := copies(whole(g))
		first, second := parts(results(g.v, g.axes, g.dims)), parts(results(g.v, g.axes, g.dims))
		want := copies(first)
		for _, l := range second {
			overwrite(l)
		}
		if !equalLists(whole(g), before) || !equalLists(first, want) {
			t.Errorf("for %v results share memory", plain)
		}
		for _, l := range whole(g) {
			overwrite(l)
		}
		if !equalLists(first, want) {
			t.Errorf("for %v results change with the arguments", plain)
		}
		for i, l := range first {
			overwrite(l)
			if !equalLists(first[i+1:], want[i+1:]) {
				t.Errorf("for %v results share memory with each other", plain)
			}
		}
	}
}

// R4: one list may be the dims, the steps, the axes and the dims of the result.
func TestOneListForAll(t *testing.T) {
	l := withSpare([]int{2, 1})
	v := api.View{Dims: l, Steps: l}
	for _, c := range []struct {
		got, want api.View
	}{
		{first(view.Permute(v, []int{1, 0})), api.View{Dims: []int{1, 2}, Steps: []int{1, 2}}},
		{first(view.Expand(v, l)), api.View{Dims: []int{2, 1}, Steps: []int{2, 0}}},
		{first(view.Slice(v, 0, 1, 2, -1)), api.View{Off: 2, Dims: []int{2, 1}, Steps: []int{-2, 1}}},
		{first(view.Flip(v, 0)), api.View{Off: 2, Dims: []int{2, 1}, Steps: []int{-2, 1}}},
	} {
		want := c.want
		if c.got.Off != want.Off || !slices.Equal(c.got.Dims, want.Dims) || !slices.Equal(found(c.got), cells(want)) {
			t.Errorf("of %v it is %v, want %v", v, c.got, want)
		}
	}
	got, err := view.Reshape(v, l)
	wantNoView(t, "Reshape", got, err, api.ErrView)
	got, err = view.Permute(v, l)
	wantNoView(t, "Permute", got, err, api.ErrAxis)
	if !slices.Equal(l, []int{2, 1}) {
		t.Errorf("the list has changed to %v", l)
	}
}

// first is the view alone.
func first(v api.View, _ api.Errno) api.View {
	return v
}
