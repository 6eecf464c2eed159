package shape_test

import (
	"math"
	"math/big"
	"slices"
	"testing"

	"gradine/api"
	"gradine/shape"
)

// withSpare is a copy of a list with capacity behind it that a function could overwrite.
func withSpare(a []int) []int {
	b := slices.Clone(a)
	for range 4 {
		b = append(b, 0x5ca1ab1e)
	}
	return b[:len(a)]
}

// farOut are numbers that are no axis and no dim.
func farOut() []int {
	return []int{math.MinInt, math.MinInt + 1, -1 << 62, -1 << 32, -65536, -64, 65, 4096, 65536, 1 << 31, 1 << 32, 1<<32 + 1, 1 << 62, math.MaxInt - 1, math.MaxInt}
}

// lists are all lists of n of some numbers.
func lists(n int, of []int) [][]int {
	if n == 0 {
		return [][]int{{}}
	}
	var out [][]int
	for _, l := range lists(n-1, of) {
		for _, x := range of {
			out = append(out, append(slices.Clone(l), x))
		}
	}
	return out
}

// product is the product of dims, of any size.
func product(d []int) *big.Int {
	p := big.NewInt(1)
	for _, n := range d {
		p.Mul(p, big.NewInt(int64(n)))
	}
	return p
}

// fault is the error of dims as the document defines it.
func fault(d []int) api.Errno {
	switch {
	case len(d) > 6:
		return api.ErrRank
	case slices.ContainsFunc(d, func(n int) bool { return n < 1 }):
		return api.ErrShape
	case product(d).Cmp(big.NewInt(64)) > 0:
		return api.ErrMany
	}
	return api.OK
}

// someDims are all lists of up to three of the numbers at the edges, and all longer ones of a few.
func someDims() [][]int {
	var out [][]int
	edges := append(farOut(), -1, 0, 1, 2, 3, 4, 8, 32, 63, 64)
	for n := range 4 {
		out = append(out, lists(n, edges)...)
	}
	for n := 4; n < 8; n++ {
		out = append(out, lists(n, []int{1, 2, 3})...)
		out = append(out, lists(n, []int{0, 1, math.MaxInt})...)
	}
	return out
}

// validDims are all valid dims of n axes.
func validDims(n int) [][]int {
	out := [][]int{{}}
	for range n {
		var longer [][]int
		for _, d := range out {
			for size := 1; size <= 64; size++ {
				if more := append(slices.Clone(d), size); fault(more) == api.OK {
					longer = append(longer, more)
				}
			}
		}
		out = longer
	}
	return out
}

// badDims are dims that are not valid, at least one for each error, with each number of axes.
func badDims() [][]int {
	return [][]int{
		{0}, {-1}, {65}, {math.MinInt}, {math.MaxInt}, {8, 9}, {3, 0}, {0, 65}, {65, -1}, {2, 3, 11}, {2, 0, 11}, {1, 1, 1, 65}, {5, 1, 1, 1, 13},
		{2, 2, 2, 2, 2, 3}, {1, 1, 1, 1, 1, 0}, {1, 1, 1, 1, 1, 1, 1}, {0, 1, 1, 1, 1, 1, 1}, {65, 1, 1, 1, 1, 1, 1}, make([]int, 100),
	}
}

// permutations are all orders of n axes.
func permutations(n int) [][]int {
	var out [][]int
	axes := make([]int, n)
	for i := range axes {
		axes[i] = i
	}
	var order func(done, rest []int)
	order = func(done, rest []int) {
		if len(rest) == 0 {
			out = append(out, slices.Clone(done))
		}
		for i, axis := range rest {
			order(append(slices.Clone(done), axis), slices.Delete(slices.Clone(rest), i, i+1))
		}
	}
	order(nil, axes)
	return out
}

// subsets are all sets of axes of n, each in ascending order and in descending order.
func subsets(n int) [][]int {
	var out [][]int
	for set := range 1 << n {
		var l []int
		for axis := range n {
			if set>>axis&1 == 1 {
				l = append(l, axis)
			}
		}
		down := slices.Clone(l)
		slices.Reverse(down)
		out = append(out, l, down)
	}
	return out
}

// wrongAxes are lists of which none names axes of n, each once.
func wrongAxes(n int) [][]int {
	var out [][]int
	for _, bad := range append(farOut(), -2, -1, n, n+1, 7) {
		out = append(out, []int{bad}, []int{bad, 0}, []int{0, bad}, []int{bad, bad})
		all := permutations(n)[0]
		out = append(out, append(slices.Clone(all), bad), append([]int{bad}, all...))
		for i := range all {
			changed := slices.Clone(all)
			changed[i] = bad
			out = append(out, changed)
		}
	}
	for i := range n {
		for j := range n {
			out = append(out, []int{i, j, i}, append(permutations(n)[0], i), append([]int{j}, permutations(n)[0]...))
		}
	}
	return append(out, make([]int, 2), make([]int, 7), make([]int, 1000))
}

// Promise 19.1.
func TestCheck(t *testing.T) {
	for _, d := range append(someDims(), badDims()...) {
		if got, want := shape.Check(d), fault(d); got != want {
			t.Errorf("Check(%v) = %v, want %v", d, got, want)
		}
	}
	if got := shape.Check(nil); got != api.OK {
		t.Errorf("Check(nil) = %v", got)
	}
}

// Promise 19.1: results that are written out, among them those of dims whose product, computed with ints, would be small.
func TestCheckWrittenOut(t *testing.T) {
	for _, c := range []struct {
		d    []int
		want api.Errno
	}{
		{[]int{}, api.OK},
		{[]int{64}, api.OK},
		{[]int{65}, api.ErrMany},
		{[]int{8, 8}, api.OK},
		{[]int{8, 9}, api.ErrMany},
		{[]int{5, 13}, api.ErrMany},
		{[]int{1, 64, 1}, api.OK},
		{[]int{4, 4, 4}, api.OK},
		{[]int{4, 4, 5}, api.ErrMany},
		{[]int{2, 2, 2, 2, 2, 2}, api.OK},
		{[]int{2, 2, 2, 2, 2, 3}, api.ErrMany},
		{[]int{3, 2, 2, 2, 2, 2}, api.ErrMany},
		{[]int{1, 1, 1, 1, 1, 1}, api.OK},
		{[]int{1, 1, 1, 1, 1, 1, 1}, api.ErrRank},
		{[]int{0, 0, 0, 0, 0, 0, 0}, api.ErrRank},
		{[]int{64, 64, 64, 64, 64, 64, 64}, api.ErrRank},
		{[]int{0}, api.ErrShape},
		{[]int{-1}, api.ErrShape},
		{[]int{-1, -1}, api.ErrShape},
		{[]int{-8, -8}, api.ErrShape},
		{[]int{65, 0}, api.ErrShape},
		{[]int{0, 65}, api.ErrShape},
		{[]int{8, 9, -1}, api.ErrShape},
		{[]int{math.MaxInt, math.MaxInt, math.MinInt}, api.ErrShape},
		{[]int{math.MinInt}, api.ErrShape},
		{[]int{math.MinInt, math.MinInt}, api.ErrShape},
		{[]int{math.MaxInt}, api.ErrMany},
		{[]int{math.MaxInt, math.MaxInt}, api.ErrMany},
		{[]int{1 << 32, 1 << 32}, api.ErrMany},
		{[]int{1 << 62, 4}, api.ErrMany},
		{[]int{2, 1 << 63 >> 1, 2}, api.ErrMany},
		{[]int{1 << 31, 1 << 31, 1 << 31, 1, 1, 1}, api.ErrMany},
		{[]int{0xaaaaaaaaaaaaaab, 24}, api.ErrMany},
	} {
		if got := shape.Check(c.d); got != c.want {
			t.Errorf("Check(%v) = %v, want %v", c.d, got, c.want)
		}
	}
}

// Promise 19.1: 0 and nothing for dims that are not valid.
func TestCountAndSteps(t *testing.T) {
	for _, d := range append(someDims(), badDims()...) {
		count, steps := 0, []int(nil)
		if fault(d) == api.OK {
			count = int(product(d).Int64())
			for i := range d {
				steps = append(steps, int(product(d[i+1:]).Int64()))
			}
		}
		if got := shape.Count(d); got != count {
			t.Errorf("Count(%v) = %d, want %d", d, got, count)
		}
		if got := shape.Steps(d); !slices.Equal(got, steps) {
			t.Errorf("Steps(%v) = %v, want %v", d, got, steps)
		}
	}
	if n, l := shape.Count(nil), shape.Steps(nil); n != 1 || len(l) != 0 {
		t.Errorf("without axes there are %d elements and the steps %v", n, l)
	}
}

// Promise 19.1: dims of 1 at each end, between others, and alone.
func TestStepsWrittenOut(t *testing.T) {
	for _, c := range []struct {
		d, want []int
		count   int
	}{
		{[]int{2, 3, 4}, []int{12, 4, 1}, 24},
		{[]int{4, 3, 2}, []int{6, 2, 1}, 24},
		{[]int{1, 3, 4}, []int{12, 4, 1}, 12},
		{[]int{3, 1, 4}, []int{4, 4, 1}, 12},
		{[]int{3, 4, 1}, []int{4, 1, 1}, 12},
		{[]int{1}, []int{1}, 1},
		{[]int{1, 1}, []int{1, 1}, 1},
		{[]int{1, 1, 1, 1, 1, 1}, []int{1, 1, 1, 1, 1, 1}, 1},
		{[]int{1, 1, 1, 1, 1, 5}, []int{5, 5, 5, 5, 5, 1}, 5},
		{[]int{5, 1, 1, 1, 1, 1}, []int{1, 1, 1, 1, 1, 1}, 5},
		{[]int{2, 2, 2, 2, 2, 2}, []int{32, 16, 8, 4, 2, 1}, 64},
		{[]int{64}, []int{1}, 64},
		{[]int{7}, []int{1}, 7},
	} {
		if n, l := shape.Count(c.d), shape.Steps(c.d); n != c.count || !slices.Equal(l, c.want) {
			t.Errorf("of %v Count = %d and Steps = %v, want %d and %v", c.d, n, l, c.count, c.want)
		}
	}
}

// Promise 19.1: any lists are compared, and an empty one may be nil.
func TestSame(t *testing.T) {
	all := append(badDims(), []int{1}, []int{2}, []int{2, 3}, []int{3, 2}, []int{2, 3, 1}, []int{1, 2, 3}, []int{math.MaxInt, math.MinInt}, []int{math.MinInt, math.MaxInt})
	for i, a := range all {
		for j, b := range all {
			if got := shape.Same(withSpare(a), withSpare(b)); got != (i == j) {
				t.Errorf("Same(%v, %v) = %v", a, b, got)
			}
		}
		if shape.Same(a, nil) || shape.Same(nil, a) || shape.Same(a, []int{}) || shape.Same(a, a[:len(a)-1]) || shape.Same(a[:len(a)-1], a) {
			t.Errorf("%v is the same as shorter dims", a)
		}
	}
	if !shape.Same(nil, nil) || !shape.Same(nil, []int{}) || !shape.Same([]int{}, nil) || !shape.Same([]int{}, []int{}) {
		t.Error("dims without axes differ")
	}
}

// Promise 19.2: ErrRank, whatever the axes are.
func TestAxesRank(t *testing.T) {
	for _, rank := range append(farOut(), -7, -6, -2, -1, 7, 8, 64) {
		for _, axes := range [][]int{nil, {}, {0}, {-1}, {rank}, {0, 0}, {1, 0}, {math.MaxInt}} {
			if l, err := shape.Axes(rank, axes); len(l) != 0 || err != api.ErrRank {
				t.Errorf("Axes(%d, %v) = %v, %v", rank, axes, l, err)
			}
		}
	}
}

// Promise 19.2.
func TestAxes(t *testing.T) {
	for rank := range 7 {
		for _, axes := range subsets(rank) {
			want := make([]bool, rank)
			for axis := range want {
				want[axis] = len(axes) == 0 || slices.Contains(axes, axis)
			}
			if l, err := shape.Axes(rank, axes); !slices.Equal(l, want) || err != api.OK {
				t.Errorf("Axes(%d, %v) = %v, %v", rank, axes, l, err)
			}
		}
		for _, axes := range wrongAxes(rank) {
			if l, err := shape.Axes(rank, axes); len(l) != 0 || err != api.ErrAxis {
				t.Errorf("Axes(%d, %v) = %v, %v", rank, axes, l, err)
			}
		}
		for n := range 4 {
			for _, axes := range lists(n, []int{-1, 0, 1, 2, 3, 4, 5, 6}) {
				checkAxes(t, rank, axes)
			}
		}
	}
}

// checkAxes holds Axes to what the document says of each axis and of each element.
func checkAxes(t *testing.T, rank int, axes []int) {
	t.Helper()
	got, err := shape.Axes(rank, axes)
	times := map[int]int{}
	wrong := false
	for _, axis := range axes {
		times[axis]++
		wrong = wrong || axis < 0 || axis >= rank || times[axis] > 1
	}
	if wrong {
		if len(got) != 0 || err != api.ErrAxis {
			t.Errorf("Axes(%d, %v) = %v, %v", rank, axes, got, err)
		}
		return
	}
	if len(got) != rank || err != api.OK {
		t.Errorf("Axes(%d, %v) = %v, %v", rank, axes, got, err)
		return
	}
	for axis, marked := range got {
		if marked != (len(axes) == 0 || times[axis] == 1) {
			t.Errorf("Axes(%d, %v) = %v", rank, axes, got)
		}
	}
}

// Promise 19.2: results that are written out.
func TestAxesWrittenOut(t *testing.T) {
	for _, c := range []struct {
		rank int
		axes []int
		want []bool
		err  api.Errno
	}{
		{0, nil, nil, api.OK},
		{0, []int{0}, nil, api.ErrAxis},
		{1, nil, []bool{true}, api.OK},
		{1, []int{}, []bool{true}, api.OK},
		{1, []int{0}, []bool{true}, api.OK},
		{3, []int{1}, []bool{false, true, false}, api.OK},
		{3, []int{2, 0}, []bool{true, false, true}, api.OK},
		{3, []int{2, 0, 1}, []bool{true, true, true}, api.OK},
		{3, []int{3}, nil, api.ErrAxis},
		{3, []int{2, 2}, nil, api.ErrAxis},
		{3, []int{0, 1, 2, 0}, nil, api.ErrAxis},
		{6, nil, []bool{true, true, true, true, true, true}, api.OK},
		{6, []int{5}, []bool{false, false, false, false, false, true}, api.OK},
		{6, []int{6}, nil, api.ErrAxis},
		{7, []int{6}, nil, api.ErrRank},
		{-1, []int{-1}, nil, api.ErrRank},
	} {
		if l, err := shape.Axes(c.rank, c.axes); !slices.Equal(l, c.want) || err != c.err {
			t.Errorf("Axes(%d, %v) = %v, %v, want %v, %v", c.rank, c.axes, l, err, c.want, c.err)
		}
	}
}

func wantDims(t *testing.T, what string, got []int, err api.Errno, want []int, wantErr api.Errno) {
	t.Helper()
	if !slices.Equal(got, want) || err != wantErr {
		t.Errorf("%s is %v, %v, want %v, %v", what, got, err, want, wantErr)
	}
}

// Promise 19.2: no axis means all of them, as for Axes.
func TestDropWrittenOut(t *testing.T) {
	for _, c := range []struct {
		d, axes     []int
		gone, there []int
		err         api.Errno
	}{
		{[]int{2, 3, 4}, []int{1}, []int{2, 4}, []int{2, 1, 4}, api.OK},
		{[]int{2, 3, 4}, []int{0}, []int{3, 4}, []int{1, 3, 4}, api.OK},
		{[]int{2, 3, 4}, []int{2}, []int{2, 3}, []int{2, 3, 1}, api.OK},
		{[]int{2, 3, 4}, []int{2, 0}, []int{3}, []int{1, 3, 1}, api.OK},
		{[]int{2, 3, 4}, []int{2, 0, 1}, nil, []int{1, 1, 1}, api.OK},
		{[]int{2, 3, 4}, nil, nil, []int{1, 1, 1}, api.OK},
		{[]int{2, 3, 4}, []int{}, nil, []int{1, 1, 1}, api.OK},
		{[]int{1, 5, 1}, []int{0}, []int{5, 1}, []int{1, 5, 1}, api.OK},
		{[]int{1, 5, 1}, []int{1}, []int{1, 1}, []int{1, 1, 1}, api.OK},
		{[]int{2, 2, 2, 2, 2, 2}, []int{5, 0, 3}, []int{2, 2, 2}, []int{1, 2, 2, 1, 2, 1}, api.OK},
		{[]int{64}, []int{0}, nil, []int{1}, api.OK},
		{nil, nil, nil, nil, api.OK},
		{nil, []int{0}, nil, nil, api.ErrAxis},
		{[]int{2, 3, 4}, []int{3}, nil, nil, api.ErrAxis},
		{[]int{2, 3, 4}, []int{-1}, nil, nil, api.ErrAxis},
		{[]int{2, 3, 4}, []int{1, 1}, nil, nil, api.ErrAxis},
		{[]int{8, 9}, []int{0}, nil, nil, api.ErrMany},
		{[]int{8, 9}, []int{2}, nil, nil, api.ErrMany},
		{[]int{8, 0}, []int{1}, nil, nil, api.ErrShape},
		{[]int{8, 0}, []int{0, 0}, nil, nil, api.ErrShape},
		{[]int{1, 1, 1, 1, 1, 1, 1}, []int{7}, nil, nil, api.ErrRank},
		{[]int{1, 1, 1, 1, 1, 1, 1}, nil, nil, nil, api.ErrRank},
	} {
		got, err := shape.Drop(c.d, c.axes, false)
		wantDims(t, "Drop", got, err, c.gone, c.err)
		got, err = shape.Drop(c.d, c.axes, true)
		wantDims(t, "Drop with keep", got, err, c.there, c.err)
	}
}

// Promises 19.2 and 19.3: all valid dims without each set of their axes; what remains and what was dropped make up all elements.
func TestDrop(t *testing.T) {
	for rank := range 7 {
		sets := subsets(rank)
		for _, d := range validDims(rank) {
			for _, axes := range sets {
				checkDrop(t, d, axes)
			}
		}
	}
}

func checkDrop(t *testing.T, d, axes []int) {
	t.Helper()
	var gone, there []int
	dropped := 1
	for axis, size := range d {
		if len(axes) == 0 || slices.Contains(axes, axis) {
			there = append(there, 1)
			dropped *= size
		} else {
			gone = append(gone, size)
			there = append(there, size)
		}
	}
	for _, keep := range []bool{false, true} {
		want := gone
		if keep {
			want = there
		}
		got, err := shape.Drop(d, axes, keep)
		if !slices.Equal(got, want) || err != api.OK {
			t.Errorf("Drop(%v, %v, %v) = %v, %v, want %v", d, axes, keep, got, err, want)
		}
		if shape.Count(got)*dropped != shape.Count(d) {
			t.Errorf("Drop(%v, %v, %v) = %v has %d elements for each of which %d were dropped", d, axes, keep, got, shape.Count(got), dropped)
		}
	}
}

// Promise 19.2 and R2: the error of the dims is ahead of that of the axes.
func TestDropErrors(t *testing.T) {
	for rank := range 7 {
		for _, axes := range wrongAxes(rank) {
			for _, keep := range []bool{false, true} {
				for _, size := range []int{1, 2} {
					got, err := shape.Drop(slices.Repeat([]int{size}, rank), axes, keep)
					wantDims(t, "Drop", got, err, nil, api.ErrAxis)
				}
			}
		}
	}
	for _, d := range badDims() {
		for _, axes := range [][]int{nil, {}, {0}, {len(d)}, {-1}, {0, 0}, {math.MinInt}} {
			for _, keep := range []bool{false, true} {
				got, err := shape.Drop(d, axes, keep)
				wantDims(t, "Drop", got, err, nil, fault(d))
			}
		}
	}
}

// Promise 19.2.
func TestPermWrittenOut(t *testing.T) {
	for _, c := range []struct {
		d, axes, want []int
		err           api.Errno
	}{
		{[]int{2, 3, 4}, []int{0, 1, 2}, []int{2, 3, 4}, api.OK},
		{[]int{2, 3, 4}, []int{1, 2, 0}, []int{3, 4, 2}, api.OK},
		{[]int{2, 3, 4}, []int{2, 0, 1}, []int{4, 2, 3}, api.OK},
		{[]int{2, 3, 4}, []int{2, 1, 0}, []int{4, 3, 2}, api.OK},
		{[]int{1, 3, 1}, []int{1, 0, 2}, []int{3, 1, 1}, api.OK},
		{[]int{2, 1, 3, 1, 5, 1}, []int{5, 4, 3, 2, 1, 0}, []int{1, 5, 1, 3, 1, 2}, api.OK},
		{[]int{64}, []int{0}, []int{64}, api.OK},
		{nil, nil, nil, api.OK},
		{nil, []int{}, nil, api.OK},
		{nil, []int{0}, nil, api.ErrAxis},
		{[]int{5}, nil, nil, api.ErrAxis},
		{[]int{2, 3}, nil, nil, api.ErrAxis},
		{[]int{2, 3}, []int{}, nil, api.ErrAxis},
		{[]int{2, 3}, []int{0}, nil, api.ErrAxis},
		{[]int{2, 3}, []int{1}, nil, api.ErrAxis},
		{[]int{2, 3}, []int{0, 0}, nil, api.ErrAxis},
		{[]int{2, 3}, []int{1, 2}, nil, api.ErrAxis},
		{[]int{2, 3}, []int{-1, 0}, nil, api.ErrAxis},
		{[]int{2, 3}, []int{0, 1, 0}, nil, api.ErrAxis},
		{[]int{2, 3}, []int{0, 1, 2}, nil, api.ErrAxis},
		{[]int{8, 9}, []int{0, 0}, nil, api.ErrMany},
		{[]int{8, 9}, []int{1, 0}, nil, api.ErrMany},
		{[]int{8, -9}, nil, nil, api.ErrShape},
		{[]int{1, 1, 1, 1, 1, 1, 1}, []int{0, 1, 2, 3, 4, 5, 6}, nil, api.ErrRank},
	} {
		got, err := shape.Perm(c.d, c.axes)
		wantDims(t, "Perm", got, err, c.want, c.err)
	}
}

// Promises 19.2 and 19.3: all valid dims in some orders, dims of few axes in all of them.
func TestPerm(t *testing.T) {
	for rank := range 7 {
		orders := permutations(rank)
		for k, d := range validDims(rank) {
			some := orders
			if rank > 4 {
				some = [][]int{orders[0], orders[k%len(orders)], orders[len(orders)-1]}
			}
			for _, axes := range some {
				checkPerm(t, d, axes)
			}
		}
		for _, axes := range orders {
			checkPerm(t, []int{1, 3, 2, 1, 5, 2}[:rank], axes)
		}
	}
}

func checkPerm(t *testing.T, d, axes []int) {
	t.Helper()
	want := make([]int, len(d))
	for i := range want {
		want[i] = d[axes[i]]
	}
	got, err := shape.Perm(d, axes)
	if !slices.Equal(got, want) || err != api.OK {
		t.Errorf("Perm(%v, %v) = %v, %v, want %v", d, axes, got, err, want)
	}
	if shape.Count(got) != shape.Count(d) {
		t.Errorf("Perm(%v, %v) = %v has %d elements", d, axes, got, shape.Count(got))
	}
}

// Promise 19.2 and R2: each axis once, no more and no less, and the error of the dims is ahead.
func TestPermErrors(t *testing.T) {
	for rank := range 7 {
		d := []int{2, 3, 1, 2, 1, 5}[:rank]
		for _, axes := range subsets(rank) {
			if len(axes) < rank {
				got, err := shape.Perm(d, axes)
				wantDims(t, "Perm", got, err, nil, api.ErrAxis)
			}
		}
		for _, axes := range wrongAxes(rank) {
			got, err := shape.Perm(d, axes)
			wantDims(t, "Perm", got, err, nil, api.ErrAxis)
		}
	}
	for _, d := range badDims() {
		order := make([]int, len(d))
		for i := range order {
			order[i] = i
		}
		for _, axes := range [][]int{nil, order, order[1:], {0}, {-1}, {len(d)}, {0, 0}, {math.MaxInt}} {
			got, err := shape.Perm(d, axes)
			wantDims(t, "Perm", got, err, nil, fault(d))
		}
	}
}

// Promise 19.2.
func TestWithWrittenOut(t *testing.T) {
	for _, c := range []struct {
		d          []int
		axis, size int
		want       []int
		err        api.Errno
	}{
		{[]int{2, 3, 4}, 0, 5, []int{5, 3, 4}, api.OK},
		{[]int{2, 3, 4}, 1, 1, []int{2, 1, 4}, api.OK},
		{[]int{2, 3, 4}, 2, 10, []int{2, 3, 10}, api.OK},
		{[]int{2, 3, 4}, 2, 11, nil, api.ErrMany},
		{[]int{2, 3, 4}, 1, 8, []int{2, 8, 4}, api.OK},
		{[]int{2, 3, 4}, 1, 9, nil, api.ErrMany},
		{[]int{2, 3, 4}, 1, 0, nil, api.ErrShape},
		{[]int{2, 3, 4}, 1, -3, nil, api.ErrShape},
		{[]int{2, 3, 4}, 3, 1, nil, api.ErrAxis},
		{[]int{2, 3, 4}, -1, 1, nil, api.ErrAxis},
		{[]int{2, 3, 4}, 3, 0, nil, api.ErrAxis},
		{[]int{2, 3, 4}, -1, 100, nil, api.ErrAxis},
		{[]int{64}, 0, 64, []int{64}, api.OK},
		{[]int{64}, 0, 65, nil, api.ErrMany},
		{[]int{64, 1}, 1, 2, nil, api.ErrMany},
		{[]int{64, 1}, 0, math.MaxInt, nil, api.ErrMany},
		{[]int{64, 1}, 1, 1 << 58, nil, api.ErrMany},
		{[]int{64, 1}, 1, math.MinInt, nil, api.ErrShape},
		{nil, 0, 1, nil, api.ErrAxis},
		{nil, -1, 0, nil, api.ErrAxis},
		{[]int{8, 9}, 0, 1, nil, api.ErrMany},
		{[]int{8, 9}, 2, 1, nil, api.ErrMany},
		{[]int{8, 0}, 1, 1, nil, api.ErrShape},
		{[]int{8, 0}, 5, 0, nil, api.ErrShape},
		{[]int{1, 1, 1, 1, 1, 1, 1}, 7, 0, nil, api.ErrRank},
		{[]int{1, 1, 1, 1, 1, 1}, 6, 1, nil, api.ErrAxis},
		{[]int{1, 1, 1, 1, 1, 1}, 5, 64, []int{1, 1, 1, 1, 1, 64}, api.OK},
	} {
		got, err := shape.With(c.d, c.axis, c.size)
		wantDims(t, "With", got, err, c.want, c.err)
	}
}

// Promise 19.2 and R2: each axis and sizes of all kinds, for dims valid and not.
func TestWith(t *testing.T) {
	all := badDims()
	for rank := range 7 {
		all = append(all, validDims(rank)...)
	}
	sizes := append(farOut(), -1, 0, 1, 2, 3, 4, 8, 9, 21, 22, 32, 33, 64)
	for _, d := range all {
		for axis := -1; axis <= len(d); axis++ {
			for _, size := range sizes {
				checkWith(t, d, axis, size)
			}
		}
		for _, axis := range farOut() {
			checkWith(t, d, axis, 0)
			checkWith(t, d, axis, 1)
		}
	}
}

func checkWith(t *testing.T, d []int, axis, size int) {
	t.Helper()
	want, wantErr := []int(nil), fault(d)
	if wantErr == api.OK && (axis < 0 || axis >= len(d)) {
		wantErr = api.ErrAxis
	}
	if wantErr == api.OK {
		want = slices.Clone(d)
		want[axis] = size
		wantErr = fault(want)
	}
	if wantErr != api.OK {
		want = nil
	}
	if got, err := shape.With(d, axis, size); !slices.Equal(got, want) || err != wantErr {
		t.Errorf("With(%v, %d, %d) = %v, %v, want %v, %v", d, axis, size, got, err, want, wantErr)
	}
}

// results are the lists of ints that calls return for dims and some of their axes.
func results(d, axes []int) [][]int {
	var out [][]int
	add := func(l []int, _ api.Errno) {
		out = append(out, l)
	}
	add(shape.Steps(d), 0)
	add(shape.Drop(d, axes, false))
	add(shape.Drop(d, axes, true))
	add(shape.Perm(d, axes))
	for axis := range d {
		add(shape.With(d, axis, 2))
		add(shape.With(d, axis, d[axis]))
	}
	return out
}

// copies are copies of lists.
func copies(l [][]int) [][]int {
	var out [][]int
	for _, a := range l {
		out = append(out, slices.Clone(a))
	}
	return out
}

func equalLists(a, b [][]int) bool {
	return slices.EqualFunc(a, b, slices.Equal[[]int])
}

// overwrite changes a list up to its capacity.
func overwrite(a []int) {
	a = a[:cap(a)]
	for i := range a {
		a[i] = -77
	}
}

// argumentPairs are dims and axes, valid and not.
func argumentPairs() [][2][]int {
	return [][2][]int{
		{{2, 3, 4}, {2, 0, 1}}, {{2, 3, 4}, {0, 1, 2}}, {{2, 3, 4}, {1}}, {{2, 3, 4}, {}}, {{1, 1, 1, 1, 1, 1}, {5, 4, 3, 2, 1, 0}}, {{1}, {0}}, {{}, {}},
		{{3, 1, 2}, {1, 1}}, {{3, 1, 2}, {7}}, {{8, 9}, {1, 0}}, {{2, 0}, {1, 0}}, {{1, 1, 1, 1, 1, 1, 1}, {0, 1, 2, 3, 4, 5, 6}},
	}
}

// R4: no call changes its arguments, or the capacity behind them.
func TestArgumentsStay(t *testing.T) {
	for _, c := range argumentPairs() {
		d, axes := withSpare(c[0]), withSpare(c[1])
		before := copies([][]int{d[:cap(d)], axes[:cap(axes)]})
		results(d, axes)
		shape.Check(d)
		shape.Count(d)
		shape.Same(d, axes)
		shape.Axes(len(d), axes)
		if !equalLists(before, [][]int{d[:cap(d)], axes[:cap(axes)]}) {
			t.Errorf("%v and %v have changed to %v and %v", c[0], c[1], d, axes)
		}
	}
}

// R4: results are new memory: they neither change with the arguments nor with each other, nor do the arguments with them.
func TestResultsApart(t *testing.T) {
	for _, c := range argumentPairs() {
		d, axes := withSpare(c[0]), withSpare(c[1])
		first, second := results(d, axes), results(d, axes)
		want := copies(first)
		for _, l := range second {
			overwrite(l)
		}
		if !slices.Equal(d, c[0]) || !slices.Equal(axes, c[1]) || !equalLists(first, want) {
			t.Errorf("for %v and %v results share memory", c[0], c[1])
		}
		overwrite(d)
		overwrite(axes)
		if !equalLists(first, want) {
			t.Errorf("for %v and %v results change with the arguments", c[0], c[1])
		}
		for i, l := range first {
			overwrite(l)
			if !equalLists(first[i+1:], want[i+1:]) {
				t.Errorf("for %v and %v results share memory with each other", c[0], c[1])
			}
		}
	}
}

// R4: what Axes returns is new memory too.
func TestMarksApart(t *testing.T) {
	for rank := 1; rank <= 6; rank++ {
		for _, axes := range subsets(rank) {
			first, _ := shape.Axes(rank, axes)
			want := slices.Clone(first)
			second, _ := shape.Axes(rank, axes)
			for i := range second {
				second[i] = !second[i]
			}
			third, _ := shape.Axes(rank, axes)
			if !slices.Equal(first, want) || !slices.Equal(third, want) {
				t.Errorf("Axes(%d, %v) share memory", rank, axes)
			}
		}
	}
}

// R4: one list may be both the dims and the axes.
func TestOneListTwice(t *testing.T) {
	l := withSpare([]int{2, 1})
	got, err := shape.Drop(l, l[1:], true)
	wantDims(t, "Drop", got, err, []int{2, 1}, api.OK)
	l = withSpare([]int{1})
	got, err = shape.Perm(l, l)
	wantDims(t, "Perm", got, err, nil, api.ErrAxis)
	if !shape.Same(l, l) || !slices.Equal(l, []int{1}) {
		t.Error(l)
	}
}
